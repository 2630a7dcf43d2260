/- Lists with room behind them: roomy, kept, spoil. -/
import Derived.Test.YtdncjikmknkkpabSam
import Derived.Test.YtdncjikmknkkpabApp
import Derived.Lib.AppendZeros
import Derived.Laws.AppendOwnNone
namespace Go.Proofs.Ytdncjikmknkkpab
open Go.RowKit

/-- n numbers as a list. -/
def lstU (n : Nat) (Z : Nat → Int) : List Int := (List.range n).map Z
theorem lstU_len (n : Nat) (Z : Nat → Int) : (lstU n Z).length = n := by simp [lstU]
theorem addr_none (b o k : Nat) : (⟨b, o, none⟩ : Addr).add k = ⟨b, o + k, none⟩ := by
  unfold Addr.add
  split <;> simp_all

/-- Numbers as cells. -/
def vk (K : IntKind) (l : List Int) : List Value := l.map (Value.int K)
theorem vk_len (K : IntKind) (l : List Int) : (vk K l).length = l.length := by simp [vk]
theorem vk_one (K : IntKind) (l : List Int) : ∀ u ∈ vk K l, u.oneCell' = true := by
  intro u hu
  obtain ⟨x, _, rfl⟩ := List.mem_map.1 hu
  rfl
theorem vk_app (K : IntKind) (l m : List Int) : vk K (l ++ m) = vk K l ++ vk K m := by simp [vk]

/-- A row of numbers. -/
def RowK (K : IntKind) (w : World) (a : Option Addr) (n : Nat) (Z : Nat → Int) : Prop := ∃ b o, (0 < n → a = some ⟨b, o, none⟩) ∧ ∀ i, i < n → w.cell? ⟨b, o + i, none⟩ = some (.int K (Z i))
theorem RowK.below {K : IntKind} {w w' : World} {a : Option Addr} {n : Nat} {Z : Nat → Int} (h : RowK K w a n Z) (hb : Below w.heap.size w w') : RowK K w' a n Z := by
  obtain ⟨b, o, h1, h2⟩ := h
  exact ⟨b, o, h1, fun i hi => below_cell hb (Nat.le_refl _) (h2 i hi)⟩

theorem news_of_rowK {K : IntKind} {w : World} {x : Addr} {n : Nat} {Z : Nat → Int} (h : RowK K w (some x) n Z) : ∀ j u, (vk K (lstU n Z))[j]? = some u → w.cell? (x.add j) = some u := by
  intro j u hu
  obtain ⟨b, o, ha, hc⟩ := h
  have hj : j < n := by
    have := (List.getElem?_eq_some_iff.1 hu).1
    rwa [vk_len, lstU_len] at this
  have hx := ha (by omega)
  simp only [Option.some.injEq] at hx
  subst hx
  have e : (vk K (lstU n Z))[j]? = some (.int K (Z j)) := by simp [vk, lstU, hj]
  rw [e, Option.some.injEq] at hu
  rw [addr_none, ← hu]
  exact hc j hj

theorem run_append_none {P : Program} (w : World) (t ty e : TypeId) (i : TypeInfo) (ht : P.underlying t = some (.slice e)) (hi : P.info? e = some i) (a : Option Addr) (n cap : Nat) (h : n ≤ cap) :
    (Builtin.append_ #[t, t] ty #[.slice a n cap, .slice none 0 0]).run P w = .ok (.slice a n cap) w := by
  cases a with
  | none => simp [Builtin.append_, run_underlying ht, sizeOf, typeInfo, hi, Builtin.lenOf, Builtin.firstCells, h]
  | some x => simp [Builtin.append_, run_underlying ht, sizeOf, typeInfo, hi, Builtin.lenOf, Builtin.firstCells, h, storeCells]

/-- 'append(v, s...)' of numbers, s a slice of whatever memory, nil too. -/
theorem wpList_append_listK {P : Program} (w : World) {ops : Array Oper} {rest : List Oper} {o : Oper} {a : Act} {Q : Exit → Act → World → Prop} (hgd : o.guard = none) (s x : Operand) (t : TypeId)
    (ho : o.op = .call { callee := .builtin .append, args := #[s, x], argTypes := #[t, t] }) (K : IntKind) (e : TypeId)
    (base : Nat) (i : TypeInfo) (ht : P.underlying t = some (.slice e)) (hi : P.info? e = some i) (hz : i.zero = some (.int K 0)) (hsize : i.size = 1) (hby : i.bytes = 8)
    (v : Value) (n : Nat) (xs : List Int) (hs : a.eval s = v) (hown : w.ownsRow base e 1 v n (vk K xs))
    (b : Option Addr) (m d : Nat) (Y : Nat → Int) (hx : a.eval x = .slice b m d) (hrow : RowK K w b m Y) (hnil : b = none → m = 0 ∧ d = 0) (hsum : n + m ≤ 17592186044416) (hbase : base ≤ w.heap.size)
    (h : ∀ v' w', w'.ownsRow base e 1 v' (n + m) (vk K (xs ++ lstU m Y)) → w.grownBy w' v.ownBlock → wpList P ops Q rest (a.put o.dst v') w') :
    wpList P ops Q (o :: rest) a w := by
  cases b with
  | some ad =>
    refine wpList_append_own_at w hgd s x t ho base e i (.int K 0) 1 8 ht hi hz hsize hby rfl (by decide) v n (vk K xs) hs hown ad m d (vk K (lstU m Y)) hx (by rw [vk_len, lstU_len, Nat.mul_one]) (news_of_rowK hrow) (vk_one _ _) (by unfold maxLen; omega) (by omega) hbase ?_
    intro v' w' h1 h2 _ _
    refine h v' w' ?_ h2
    rw [vk_app]
    exact h1
  | none =>
    obtain ⟨rfl, rfl⟩ := hnil rfl
    have h1 := h v w (by simpa [lstU] using hown) ⟨rfl, rfl, rfl, Nat.le_refl _, fun _ _ _ => rfl⟩
    refine wpList_plain hgd fun K hK => ?_
    have hr : (Builtin.append_ #[t, t] o.type #[v, .slice none 0 0]).run P w = .ok v w := by
      rcases hown.2 with ⟨rfl, rfl⟩ | ⟨g, cap, cur, rfl, _, _, hle, _⟩
      · exact run_append_none w t _ e i ht hi none 0 0 (Nat.le_refl _)
      · exact run_append_none w t _ e i ht hi (some ⟨g, 0, none⟩) n cap hle
    unfold Oper.wp execOp
    simp only [ho, resolve, invoke, builtin, Sem.run_bind, Sem.run_pure, Result.andThen_ok, List.map_toArray, List.map_cons, List.map_nil, hs, hx, hr]
    exact hK _ _ h1

theorem two_new (w : World) (x y : Value) (t : TypeId) (b : Nat) (hb : b = w.heap.size) : ∀ j u, [x, y][j]? = some u → (w.alloc (.cells #[x, y] t)).cell? ((⟨b, 0, none⟩ : Addr).add j) = some u := by
  subst hb
  intro j u hj
  match j, hj with
  | 0, hj => simp at hj; subst hj; simp [Addr.add]
  | 1, hj => simp at hj; subst hj; simp [Addr.add]

/-- A list of n numbers with room behind it, two 77 in the room, in memory from B on. -/
def Rm (t : TypeId) (K : IntKind) (w : World) (B : Nat) (v : Value) (n : Nat) (Z : Nat → Int) : Prop :=
  ∃ g cap cur, v = .slice (some ⟨g, 0, none⟩) n cap ∧ B ≤ g ∧ w.heap[g]? = some (.cells cur t (0, 0)) ∧ n + 2 ≤ cap ∧ cap ≤ maxLen ∧ cur.size = cap ∧
    (∀ i, i < n → cur[i]? = some (.int K (Z i))) ∧ cur[n]? = some (.int K 77) ∧ cur[n + 1]? = some (.int K 77)

theorem Rm.of_blk {t : TypeId} {K : IntKind} {w w' : World} {B n : Nat} {v : Value} {Z : Nat → Int} (h : Rm t K w B v n Z) (hb : ∀ g c, B ≤ g → w.heap[g]? = some (.cells c t (0, 0)) → w'.heap[g]? = w.heap[g]?) : Rm t K w' B v n Z := by
  obtain ⟨g, cap, cur, e, h1, h2, r⟩ := h
  exact ⟨g, cap, cur, e, h1, (hb g cur h1 h2).trans h2, r⟩
theorem Rm.below {t : TypeId} {K : IntKind} {w w' : World} {B n : Nat} {v : Value} {Z : Nat → Int} (h : Rm t K w B v n Z) (hb : Below w.heap.size w w') : Rm t K w' B v n Z := h.of_blk (fun g _ _ hg => hb.block g (Array.getElem?_eq_some_iff.1 hg).1)
theorem Rm.mono {t : TypeId} {K : IntKind} {w : World} {B B' n : Nat} {v : Value} {Z : Nat → Int} (h : Rm t K w B v n Z) (hB : B' ≤ B) : Rm t K w B' v n Z := by
  obtain ⟨g, cap, cur, e, h1, r⟩ := h
  exact ⟨g, cap, cur, e, Nat.le_trans hB h1, r⟩
theorem Rm.row {t : TypeId} {K : IntKind} {w : World} {B n : Nat} {v : Value} {Z : Nat → Int} (h : Rm t K w B v n Z) : ∃ g c, v = .slice (some ⟨g, 0, none⟩) n c ∧ RowK K w (some ⟨g, 0, none⟩) n Z := by
  obtain ⟨g, cap, cur, rfl, hb, hg, hle, hmax, hsz, hc, _⟩ := h
  exact ⟨_, _, rfl, g, 0, fun _ => rfl, fun i hi => by rw [Nat.zero_add]; exact cell_of_cells hg (hc i hi)⟩

theorem rm_of_owns {t : TypeId} {K : IntKind} {w : World} {B n : Nat} {v : Value} {Z : Nat → Int} (h : w.ownsRow B t 1 v (n + 2) (vk K (lstU n Z ++ [77, 77]))) :
    ∃ g cap, v = .slice (some ⟨g, 0, none⟩) (n + 2) cap ∧ n + 2 ≤ cap ∧ Rm t K w B (.slice (some ⟨g, 0, none⟩) n cap) n Z := by
  rcases h.2 with ⟨_, h0⟩ | ⟨g, cap, cur, rfl, hb, hg, hle, hmax, hsz, htake⟩
  · omega
  · have hget : ∀ i, i < n + 2 → cur[i]? = (vk K (lstU n Z ++ [77, 77]))[i]? := fun i hi => by
      rw [← htake, Nat.mul_one, List.getElem?_take_of_lt hi, Array.getElem?_toList]
    refine ⟨g, cap, rfl, hle, g, cap, cur, rfl, hb, hg, hle, hmax, by omega, fun i hi => ?_, ?_, ?_⟩
    · rw [hget i (by omega), vk, List.map_append, List.getElem?_append_left (by simpa [lstU] using hi)]
      simp [lstU, hi]
    · rw [hget n (by omega)]
      simp [vk, lstU]
    · rw [hget (n + 1) (by omega)]
      simp [vk, lstU]

theorem roomy_one {t : TypeId} {K : IntKind} {w w1 : World} {v : Value} {n : Nat} {Z : Nat → Int} {o : Obj} {c : Nat} (hb : Below w.heap.size w (w.alloc o)) (hown : w1.ownsRow w.heap.size t 1 v (0 + n) (vk K ([] ++ lstU n Z))) (hgrow : (w.alloc o).grownBy w1 (Value.ownBlock (.slice (some ⟨w.heap.size, 0, none⟩) 0 c))) :
    Hid (w1.ownsRow w.heap.size t 1 v n (vk K (lstU n Z)) ∧ Below w.heap.size w w1 ∧ w.heap.size ≤ w1.heap.size) := by
  have h2 : Below w.heap.size w w1 := hb.grown hgrow (by simp) (fun k hk => by cases hk; exact Nat.le_refl _)
  exact ⟨by rwa [Nat.zero_add, List.nil_append] at hown, h2, h2.size⟩

theorem roomy_two {t : TypeId} {K : IntKind} {w w1 w2 : World} {v v2 : Value} {n : Nat} {Z : Nat → Int} {o : Obj} (h1 : w1.ownsRow w.heap.size t 1 v n (vk K (lstU n Z))) (hb : Below w.heap.size w w1) (hown : w2.ownsRow w.heap.size t 1 v2 (n + 2) (vk K (lstU n Z) ++ [.int K 77, .int K 77])) (hgrow : (w1.alloc o).grownBy w2 v.ownBlock) :
    ∃ g cap, v2 = .slice (some ⟨g, 0, none⟩) (n + 2) cap ∧ (n : Int) ≤ cap ∧ Hid (Rm t K w2 w.heap.size (.slice (some ⟨g, 0, none⟩) n cap) n Z ∧ Below w.heap.size w w2) := by
  have e : vk K (lstU n Z) ++ [.int K 77, .int K 77] = vk K (lstU n Z ++ [77, 77]) := by simp [vk]
  rw [e] at hown
  obtain ⟨g, cap, rfl, hle, hr⟩ := rm_of_owns hown
  exact ⟨g, cap, rfl, by omega, hid ⟨hr, hb.grown ((World.grownBy_alloc _ _ _).trans hgrow) hb.size (fun k hk => (h1.lt k hk).1)⟩⟩

set_option maxHeartbeats 1000000 in
theorem roomy6 (a : Option Addr) (n c : Nat) (Z : Nat → Int) (w : World) (hn : n ≤ 17592186043904) (h : RowK .i64 w a n Z) (hnil : a = none → n = 0 ∧ c = 0) :
    Calls Try.prog 6 #[.slice a n c, .int .i64 77] w fun e w' => ∃ g cap, e = .returned (.slice (some ⟨g, 0, none⟩) n cap) ∧ Hid (Rm 3 .i64 w' w.heap.size (.slice (some ⟨g, 0, none⟩) n cap) n Z ∧ Below w.heap.size w w') := by
  have HR := hid h
  have HN := hid hnil
  clear h hnil
  obtain ⟨i0, hi, hz0, hz1, hz2⟩ := info_parts Try.info3
  have HI : Hid (Try.prog.info? 3 = some i0 ∧ i0.zero = some (.int .i64 0) ∧ i0.size = 1 ∧ i0.bytes = 8) := ⟨hi, hz0, hz1, hz2⟩
  have hmk : ∀ u : World, (Instr.makeSlice 22 (.int .i64 0) (.int .i64 ((n : Int) + 3))).run Try.prog u = .ok (.slice (some ⟨u.heap.size, 0, none⟩) 0 (n + 3)) (u.alloc (.cells (madeCells #[.int .i64 0] (n + 3)) 3)) := fun u => by
    have h := run_make (P := Try.prog) u 22 3 i0 (.int .i64 0) Try.underlying22 hi hz0 .i64 .i64 0 ((n : Int) + 3) (by omega) (by omega) (by rw [hz2]; omega) (by omega)
    have e : ((n : Int) + 3).toNat = n + 3 := by omega
    rw [e] at h
    simpa [hz1, Value.cells] using h
  clear hi hz0 hz1 hz2
  have HO : Hid ((w.alloc (.cells (madeCells #[.int .i64 0] (n + 3)) 3)).ownsRow w.heap.size 3 1 (.slice (some ⟨w.heap.size, 0, none⟩) 0 (n + 3)) 0 (vk .i64 [])) :=
    World.ownsRow_made w _ (n + 3) (Nat.le_refl _) (by unfold maxLen; omega) (by simp [size_madeCells])
  have HB : Hid (Below w.heap.size w (w.alloc (.cells (madeCells #[.int .i64 0] (n + 3)) 3))) := (Below.refl _ _).alloc (Nat.le_refl _) _
  go_enter Try.func6, Try.ntmps6
  go_wp2_with (first
    | (at_builtin; refine wpList_append_listK _ rfl _ _ 22 rfl .i64 3 w.heap.size i0 Try.underlying22 HI.out.1 HI.out.2.1 HI.out.2.2.1 HI.out.2.2.2 _ 0 [] rfl HO.out a n c Z rfl (HR.out.below HB.out) HN.out (by omega) (by simp) ?_; intro v' w1 hown hgrow; have H1 : Hid (w1.ownsRow w.heap.size 3 1 v' n (vk .i64 (lstU n Z)) ∧ Below w.heap.size w w1 ∧ w.heap.size ≤ w1.heap.size) := roomy_one HB.out hown hgrow; clear hown hgrow)
    | (at_builtin; refine wpList_append_own_at _ rfl _ _ 22 rfl w.heap.size 3 i0 (.int .i64 0) 1 8 Try.underlying22 HI.out.1 HI.out.2.1 HI.out.2.2.1 HI.out.2.2.2 rfl (by decide) _ _ _ rfl (H1.out.1.alloc _) ⟨w1.heap.size, 0, none⟩ 2 2 [.int .i64 77, .int .i64 77] rfl rfl (two_new _ _ _ _ _ rfl) (ints_oneCell .i64 [77, 77]) (by unfold maxLen; omega) (by omega) (by have := H1.out.2.2; simp; omega) ?_; intro v2 w2 hown hgrow _ _; obtain ⟨g, cap, rfl, hcap, H2⟩ := roomy_two H1.out.1 H1.out.2.1 hown hgrow; clear hown hgrow H1))
  go_ret
  exact ⟨g, cap, rfl, H2⟩

set_option maxHeartbeats 1000000 in
theorem roomy7 (a : Option Addr) (n c : Nat) (Z : Nat → Int) (w : World) (hn : n ≤ 17592186043904) (h : RowK .u64 w a n Z) (hnil : a = none → n = 0 ∧ c = 0) :
    Calls Try.prog 7 #[.slice a n c, .int .u64 77] w fun e w' => ∃ g cap, e = .returned (.slice (some ⟨g, 0, none⟩) n cap) ∧ Hid (Rm 33 .u64 w' w.heap.size (.slice (some ⟨g, 0, none⟩) n cap) n Z ∧ Below w.heap.size w w') := by
  have HR := hid h
  have HN := hid hnil
  clear h hnil
  obtain ⟨i0, hi, hz0, hz1, hz2⟩ := info_parts Try.info33
  have HI : Hid (Try.prog.info? 33 = some i0 ∧ i0.zero = some (.int .u64 0) ∧ i0.size = 1 ∧ i0.bytes = 8) := ⟨hi, hz0, hz1, hz2⟩
  have hmk : ∀ u : World, (Instr.makeSlice 24 (.int .i64 0) (.int .i64 ((n : Int) + 3))).run Try.prog u = .ok (.slice (some ⟨u.heap.size, 0, none⟩) 0 (n + 3)) (u.alloc (.cells (madeCells #[.int .u64 0] (n + 3)) 33)) := fun u => by
    have h := run_make (P := Try.prog) u 24 33 i0 (.int .u64 0) Try.underlying24 hi hz0 .i64 .i64 0 ((n : Int) + 3) (by omega) (by omega) (by rw [hz2]; omega) (by omega)
    have e : ((n : Int) + 3).toNat = n + 3 := by omega
    rw [e] at h
    simpa [hz1, Value.cells] using h
  clear hi hz0 hz1 hz2
  have HO : Hid ((w.alloc (.cells (madeCells #[.int .u64 0] (n + 3)) 33)).ownsRow w.heap.size 33 1 (.slice (some ⟨w.heap.size, 0, none⟩) 0 (n + 3)) 0 (vk .u64 [])) :=
    World.ownsRow_made w _ (n + 3) (Nat.le_refl _) (by unfold maxLen; omega) (by simp [size_madeCells])
  have HB : Hid (Below w.heap.size w (w.alloc (.cells (madeCells #[.int .u64 0] (n + 3)) 33))) := (Below.refl _ _).alloc (Nat.le_refl _) _
  go_enter Try.func7, Try.ntmps7
  go_wp2_with (first
    | (at_builtin; refine wpList_append_listK _ rfl _ _ 24 rfl .u64 33 w.heap.size i0 Try.underlying24 HI.out.1 HI.out.2.1 HI.out.2.2.1 HI.out.2.2.2 _ 0 [] rfl HO.out a n c Z rfl (HR.out.below HB.out) HN.out (by omega) (by simp) ?_; intro v' w1 hown hgrow; have H1 : Hid (w1.ownsRow w.heap.size 33 1 v' n (vk .u64 (lstU n Z)) ∧ Below w.heap.size w w1 ∧ w.heap.size ≤ w1.heap.size) := roomy_one HB.out hown hgrow; clear hown hgrow)
    | (at_builtin; refine wpList_append_own_at _ rfl _ _ 24 rfl w.heap.size 33 i0 (.int .u64 0) 1 8 Try.underlying24 HI.out.1 HI.out.2.1 HI.out.2.2.1 HI.out.2.2.2 rfl (by decide) _ _ _ rfl (H1.out.1.alloc _) ⟨w1.heap.size, 0, none⟩ 2 2 [.int .u64 77, .int .u64 77] rfl rfl (two_new _ _ _ _ _ rfl) (ints_oneCell .u64 [77, 77]) (by unfold maxLen; omega) (by omega) (by have := H1.out.2.2; simp; omega) ?_; intro v2 w2 hown hgrow _ _; obtain ⟨g, cap, rfl, hcap, H2⟩ := roomy_two H1.out.1 H1.out.2.1 hown hgrow; clear hown hgrow H1))
  go_ret
  exact ⟨g, cap, rfl, H2⟩

set_option maxHeartbeats 400000 in
theorem kept9 {w : World} {B n : Nat} {v : Value} {Z : Nat → Int} (hn : n ≤ 17592186043904) (h : Rm 3 .i64 w B v n Z) : Calls Try.prog 9 #[v, .int .i64 77] w fun e w' => e = .returned (.bool true) ∧ w' = w := by
  obtain ⟨g, cap, cur, rfl, hb, hg, hle, hmax, hsz, hc, h1, h2⟩ := h
  have h1 := cell_of_cells hg h1
  have h2 := cell_of_cells hg h2
  have hci : (n : Int) + 2 ≤ cap := by omega
  clear hc hmax hsz hg hb
  go_enter Try.func9, Try.ntmps9
  go_wp2
  go_ret
  exact ⟨rfl, rfl⟩

/-- All lists of a family have room, two 77 in it. -/
def RmAll (w : World) (B : Nat) (ga : Option Addr) (G : Nat) (L : Nat → Nat) (Z : Nat → Nat → Int) : Prop :=
  ∃ b o, (0 < G → ga = some ⟨b, o, none⟩) ∧ ∀ r, r < G → ∃ v, w.cell? ⟨b, o + r, none⟩ = some v ∧ Rm 3 .i64 w B v (L r) (Z r)

theorem kept11 {w : World} {B n : Nat} {v : Value} {Z : Nat → Int} (hn : n ≤ 17592186043904) (h : Rm 3 .i64 w B v n Z) : Calls Try.prog 11 #[v] w fun e w' => e = .returned (.bool false) ∧ w' = w := by
  have C := hid (kept9 hn h)
  clear h
  go_enter Try.func11, Try.ntmps11
  go_wp2_with fail
  refine C.out.mono ?_
  rintro e w' ⟨rfl, rfl⟩
  go_wp2
  go_ret
  exact ⟨rfl, rfl⟩

set_option maxHeartbeats 1000000 in
theorem idx11 (a : Option Addr) (G c B : Nat) (L : Nat → Nat) (Z : Nat → Nat → Int) (w : World) (hG : G ≤ 140737488355328) (hL : ∀ r, r < G → L r ≤ 17592186043904) (h : RmAll w B a G L Z) :
    Calls Try.prog 30 #[.slice a G c, .func (.func 11) #[] #[]] w fun e w' => e = .returned (.int .i64 (-1)) ∧ w' = w := by
  obtain ⟨b, o, ha, hc⟩ := h
  have HC := hid hc
  have HL := hid hL
  clear hc hL
  go_enter Try.func30, Try.ntmps30
  go_wp2
  go_loopw [8] (fun i wr => ∃ k : Nat, k ≤ G ∧ i = .int .i64 k ∧ wr = w) (fun i _ => G - (intOf i).toNat)
  case atStart => exact ⟨0, Nat.zero_le _, rfl, rfl⟩
  case round =>
    obtain ⟨k, hk, rfl, rfl⟩ := hrel
    by_cases hlt : k < G
    · obtain rfl := ha (by omega)
      obtain ⟨v, hv, hr⟩ := HC.out k hlt
      obtain ⟨g, cc, rfl, _⟩ := hr.row
      have C := hid (kept11 (HL.out k hlt) hr)
      clear hr
      go_wp2_with fail
      refine C.out.mono ?_
      rintro e w1 ⟨rfl, rfl⟩
      go_wp2
      go_roundw
      case rel => exact ⟨k + 1, by omega, by go_num, trivial⟩
      case measure => simp [intOf]; omega
    · go_wp2
      go_ret
      exact ⟨rfl, rfl⟩

theorem contains11 (a : Option Addr) (G c B : Nat) (L : Nat → Nat) (Z : Nat → Nat → Int) (w : World) (hG : G ≤ 140737488355328) (hL : ∀ r, r < G → L r ≤ 17592186043904) (h : RmAll w B a G L Z) :
    Calls Try.prog 10 #[.slice a G c, .func (.func 11) #[] #[]] w fun e w' => e = .returned (.bool false) ∧ w' = w := by
  have C := hid (idx11 a G c B L Z w hG hL h)
  clear h hL
  go_enter Try.func10, Try.ntmps10
  go_wp2_with fail
  refine C.out.mono ?_
  rintro e w' ⟨rfl, rfl⟩
  go_wp2
  go_ret
  exact ⟨rfl, rfl⟩

theorem kept12 {w : World} {B n : Nat} {v : Value} {Z : Nat → Int} (hn : n ≤ 17592186043904) (h : Rm 3 .i64 w B v n Z) : Calls Try.prog 12 #[v] w fun e w' => e = .returned (.bool false) ∧ w' = w := by
  have C := hid (kept9 hn h)
  clear h
  go_enter Try.func12, Try.ntmps12
  go_wp2_with fail
  refine C.out.mono ?_
  rintro e w' ⟨rfl, rfl⟩
  go_wp2
  go_ret
  exact ⟨rfl, rfl⟩

set_option maxHeartbeats 1000000 in
theorem idx12 (a : Option Addr) (G c B : Nat) (L : Nat → Nat) (Z : Nat → Nat → Int) (w : World) (hG : G ≤ 140737488355328) (hL : ∀ r, r < G → L r ≤ 17592186043904) (h : RmAll w B a G L Z) :
    Calls Try.prog 30 #[.slice a G c, .func (.func 12) #[] #[]] w fun e w' => e = .returned (.int .i64 (-1)) ∧ w' = w := by
  obtain ⟨b, o, ha, hc⟩ := h
  have HC := hid hc
  have HL := hid hL
  clear hc hL
  go_enter Try.func30, Try.ntmps30
  go_wp2
  go_loopw [8] (fun i wr => ∃ k : Nat, k ≤ G ∧ i = .int .i64 k ∧ wr = w) (fun i _ => G - (intOf i).toNat)
  case atStart => exact ⟨0, Nat.zero_le _, rfl, rfl⟩
  case round =>
    obtain ⟨k, hk, rfl, rfl⟩ := hrel
    by_cases hlt : k < G
    · obtain rfl := ha (by omega)
      obtain ⟨v, hv, hr⟩ := HC.out k hlt
      obtain ⟨g, cc, rfl, _⟩ := hr.row
      have C := hid (kept12 (HL.out k hlt) hr)
      clear hr
      go_wp2_with fail
      refine C.out.mono ?_
      rintro e w1 ⟨rfl, rfl⟩
      go_wp2
      go_roundw
      case rel => exact ⟨k + 1, by omega, by go_num, trivial⟩
      case measure => simp [intOf]; omega
    · go_wp2
      go_ret
      exact ⟨rfl, rfl⟩

theorem contains12 (a : Option Addr) (G c B : Nat) (L : Nat → Nat) (Z : Nat → Nat → Int) (w : World) (hG : G ≤ 140737488355328) (hL : ∀ r, r < G → L r ≤ 17592186043904) (h : RmAll w B a G L Z) :
    Calls Try.prog 10 #[.slice a G c, .func (.func 12) #[] #[]] w fun e w' => e = .returned (.bool false) ∧ w' = w := by
  have C := hid (idx12 a G c B L Z w hG hL h)
  clear h hL
  go_enter Try.func10, Try.ntmps10
  go_wp2_with fail
  refine C.out.mono ?_
  rintro e w' ⟨rfl, rfl⟩
  go_wp2
  go_ret
  exact ⟨rfl, rfl⟩

/-- Some lists of numbers with memory from lo to below hi have been written over; all else is as it was. -/
structure Spq (lo hi : Nat) (w w' : World) : Prop where
  os : w'.os = w.os
  tape : w'.tape = w.tape
  output : w'.output = w.output
  size : w'.heap.size = w.heap.size
  out : ∀ k : Nat, k < lo ∨ hi ≤ k → w'.heap[k]? = w.heap[k]?
  other : ∀ k : Nat, (∀ c t, w.heap[k]? = some (Obj.cells c t (0, 0)) → t ≠ 3 ∧ t ≠ 33) → w'.heap[k]? = w.heap[k]?
  like : ∀ (k : Nat) c t, w.heap[k]? = some (Obj.cells c t (0, 0)) → ∃ c', w'.heap[k]? = some (Obj.cells c' t (0, 0)) ∧ c'.size = c.size

theorem Spq.refl (lo hi : Nat) (w : World) : Spq lo hi w w := ⟨rfl, rfl, rfl, rfl, fun _ _ => rfl, fun _ _ => rfl, fun _ c _ h => ⟨c, h, rfl⟩⟩
theorem Spq.trans {lo hi : Nat} {u v w : World} (h : Spq lo hi u v) (k : Spq lo hi v w) : Spq lo hi u w :=
  ⟨k.os.trans h.os, k.tape.trans h.tape, k.output.trans h.output, k.size.trans h.size, fun j hj => (k.out j hj).trans (h.out j hj), fun j hj => by
    have e := h.other j hj
    rw [k.other j (fun c t hc => hj c t (by rw [← e]; exact hc)), e], fun j c t hc => by
    obtain ⟨c1, h1, h2⟩ := h.like j c t hc
    obtain ⟨c2, h3, h4⟩ := k.like j c1 t h1
    exact ⟨c2, h3, h4.trans h2⟩⟩
theorem Spq.set {lo hi : Nat} {w w' : World} {g k : Nat} {v : Value} {c0 : Array Value} {t : TypeId} (h : Spq lo hi w w') (h1 : lo ≤ g) (h2 : g < hi) (hg : w.heap[g]? = some (.cells c0 t (0, 0))) (ht : t = 3 ∨ t = 33) : Spq lo hi w (w'.setCell ⟨g, k, none⟩ v) := by
  have ho : ∀ j, j ≠ g → (w'.setCell ⟨g, k, none⟩ v).heap[j]? = w'.heap[j]? := fun j hj => Go.Deep.blk_setCell_other _ _ _ _ hj
  refine ⟨h.os, h.tape, h.output, by rw [← h.size]; simp [World.setCell], fun j hj => ?_, fun j hj => ?_, fun j c t' hc => ?_⟩
  · rw [ho j (by omega)]; exact h.out j hj
  · have : j ≠ g := fun e => by
      have h5 := hj c0 t (by rw [e]; exact hg)
      rcases ht with h6 | h6
      · exact h5.1 h6
      · exact h5.2 h6
    rw [ho j this]; exact h.other j hj
  · obtain ⟨c', h3, h4⟩ := h.like j c t' hc
    by_cases e : j = g
    · subst e
      exact ⟨c'.setIfInBounds k v, by simp [World.setCell, Array.getElem?_modify, h3], by simpa using h4⟩
    · exact ⟨c', by rw [ho j e]; exact h3, h4⟩

/-- A list that may be written over. -/
def Spo (t : TypeId) (w : World) (lo hi : Nat) (v : Value) : Prop :=
  ∃ g n cap cur, v = .slice (some ⟨g, 0, none⟩) n cap ∧ lo ≤ g ∧ g < hi ∧ w.heap[g]? = some (.cells cur t (0, 0)) ∧ n ≤ cap ∧ cap ≤ maxLen ∧ cur.size = cap
theorem Rm.spo {t : TypeId} {K : IntKind} {w : World} {B n hi : Nat} {v : Value} {Z : Nat → Int} (h : Rm t K w B v n Z) (hhi : w.heap.size ≤ hi) : Spo t w B hi v := by
  obtain ⟨g, cap, cur, e, h1, h2, h3, h4, h5, _⟩ := h
  exact ⟨g, n, cap, cur, e, h1, Nat.lt_of_lt_of_le (Array.getElem?_eq_some_iff.1 h2).1 hhi, h2, by omega, h4, h5⟩
theorem Spo.spq {t : TypeId} {w w' : World} {lo hi lo' hi' : Nat} {v : Value} (h : Spo t w lo hi v) (s : Spq lo' hi' w w') : Spo t w' lo hi v := by
  obtain ⟨g, n, cap, cur, h1, h2, h3, h4, h5, h6, h7⟩ := h
  obtain ⟨c', h8, h9⟩ := s.like g cur t h4
  exact ⟨g, n, cap, c', h1, h2, h3, h8, h5, h6, by omega⟩

set_option maxHeartbeats 1000000 in
theorem spoil13 {w : World} {lo hi : Nat} {v : Value} {x : Int} (h : Spo 3 w lo hi v) : Calls Try.prog 13 #[v, .int .i64 x] w fun e w' => e = .returned (.tuple #[]) ∧ Spq lo hi w w' := by
  obtain ⟨g, n, cap, cur, rfl, hlo, hhi, hg, hle, hmax, hsz⟩ := h
  have HG : Hid (w.heap[g]? = some (.cells cur 3 (0, 0)) ∧ cur.size = cap) := ⟨hg, hsz⟩
  have hm : cap ≤ 9223372036854775807 := by unfold maxLen at hmax; omega
  clear hg hsz hmax
  go_enter Try.func13, Try.ntmps13
  go_wp2
  go_loopw [11] (fun i wr => ∃ k : Nat, k ≤ cap ∧ i = .int .i64 k ∧ Hid (Spq lo hi w wr)) (fun i _ => cap - (intOf i).toNat)
  case atStart => exact ⟨0, Nat.zero_le _, rfl, hid (Spq.refl _ _ _)⟩
  case round =>
    obtain ⟨k, hk, rfl, HS⟩ := hrel
    by_cases hlt : k < cap
    · have hzk : (k : Int) < cap := by omega
      obtain ⟨c', h8, h9⟩ := HS.out.like g cur 3 HG.out.1
      obtain ⟨y, hcell⟩ : ∃ y, wr.cell? ⟨g, k, none⟩ = some y := ⟨_, cell_of_cells h8 (Array.getElem?_eq_getElem (by have := HG.out.2; omega))⟩
      have hfz : wr.frozen? ⟨g, k, none⟩ = false := by unfold World.frozen?; simp only [h8]; rfl
      have HN := hid (HS.out.set (k := k) (v := .int .i64 x) hlo hhi HG.out.1 (by decide))
      clear h8 h9
      go_wp2
      go_roundw
      case rel => exact ⟨k + 1, by omega, by go_num, HN⟩
      case measure => simp [intOf]; omega
    · go_wp2
      go_end0
      exact ⟨rfl, HS.out⟩

set_option maxHeartbeats 1000000 in
theorem spoil14 {w : World} {lo hi : Nat} {v : Value} {x : Int} (h : Spo 33 w lo hi v) : Calls Try.prog 14 #[v, .int .u64 x] w fun e w' => e = .returned (.tuple #[]) ∧ Spq lo hi w w' := by
  obtain ⟨g, n, cap, cur, rfl, hlo, hhi, hg, hle, hmax, hsz⟩ := h
  have HG : Hid (w.heap[g]? = some (.cells cur 33 (0, 0)) ∧ cur.size = cap) := ⟨hg, hsz⟩
  have hm : cap ≤ 9223372036854775807 := by unfold maxLen at hmax; omega
  clear hg hsz hmax
  go_enter Try.func14, Try.ntmps14
  go_wp2
  go_loopw [11] (fun i wr => ∃ k : Nat, k ≤ cap ∧ i = .int .i64 k ∧ Hid (Spq lo hi w wr)) (fun i _ => cap - (intOf i).toNat)
  case atStart => exact ⟨0, Nat.zero_le _, rfl, hid (Spq.refl _ _ _)⟩
  case round =>
    obtain ⟨k, hk, rfl, HS⟩ := hrel
    by_cases hlt : k < cap
    · have hzk : (k : Int) < cap := by omega
      obtain ⟨c', h8, h9⟩ := HS.out.like g cur 33 HG.out.1
      obtain ⟨y, hcell⟩ : ∃ y, wr.cell? ⟨g, k, none⟩ = some y := ⟨_, cell_of_cells h8 (Array.getElem?_eq_getElem (by have := HG.out.2; omega))⟩
      have hfz : wr.frozen? ⟨g, k, none⟩ = false := by unfold World.frozen?; simp only [h8]; rfl
      have HN := hid (HS.out.set (k := k) (v := .int .u64 x) hlo hhi HG.out.1 (by decide))
      clear h8 h9
      go_wp2
      go_roundw
      case rel => exact ⟨k + 1, by omega, by go_num, HN⟩
      case measure => simp [intOf]; omega
    · go_wp2
      go_end0
      exact ⟨rfl, HS.out⟩

end Go.Proofs.Ytdncjikmknkkpab
