/- A marking as a map's key. What the search holds in memory. -/
import Derived.Test.YtjenkhphngiphaaExpl2
import Derived.Maps.OwnSet
import Derived.Maps.OwnOps
import Derived.Deep.MidRow
import Derived.WideKeyArr2
import Derived.Laws.CopyOwn
namespace Go.Proofs.Ytjenkhphngiphaa
open Go.RowKit Go.Maps

/-- The key's cells. -/
def kyf (F : Nat) (Z : Nat → Int) (i : Nat) : Value := .int .u8 (if i < F then Z i else 0)
def kyl (F : Nat) (Z : Nat → Int) : List Value := (List.range 30).map (kyf F Z)
def kyv (F : Nat) (Z : Nat → Int) : Value := .agg (kyl F Z).toArray

theorem kyl_len (F : Nat) (Z : Nat → Int) : (kyl F Z).length = 30 := by simp [kyl]
theorem kyl_get {F : Nat} {Z : Nat → Int} {i : Nat} (hi : i < 30) : (kyl F Z)[i]? = some (kyf F Z i) := by simp [kyl, hi]

theorem kyv_inj {F : Nat} {Y Z : Nat → Int} (hF : F ≤ 30) (h : kyv F Y = kyv F Z) : ∀ i, i < F → Y i = Z i := by
  intro i hi
  have e : kyl F Y = kyl F Z := by
    simp only [kyv, Value.agg.injEq] at h
    simpa using congrArg Array.toList h
  have := congrArg (fun l => l[i]?) e
  simp only [kyl_get (show i < 30 by omega), kyf, if_pos hi, Option.some.injEq, Value.int.injEq, true_and] at this
  exact this

theorem Try.arrKey : Go.WideMaps.ArrKey Try.prog 142 5 30 := ⟨Try.underlying142, by kernel_rfl, by kernel_rfl, by kernel_rfl⟩
theorem Try.keyed : Keyed Try.prog 142 := Keyed.of_law Try.arrKey.law

theorem mapM_some {α β : Type} {f : α → Option β} : ∀ {l : List α}, (∀ x ∈ l, ∃ y, f x = some y) → ∃ ys, l.mapM f = some ys
  | [], _ => ⟨[], rfl⟩
  | x :: l, h => by
    obtain ⟨y, hy⟩ := h x (by simp)
    obtain ⟨ys, hys⟩ := mapM_some (l := l) (fun z hz => h z (by simp [hz]))
    exact ⟨y :: ys, by rw [List.mapM_cons, hy, hys]; rfl⟩

theorem key_some {F : Nat} {Z : Nat → Int} (h9 : ∀ i, i < F → 0 ≤ Z i ∧ Z i ≤ 9) : ∃ kl, keyOf Try.prog 142 (kyv F Z) = some kl := by
  have hsz : ∃ m, Try.prog.types.size = m + 1 := ⟨Try.prog.types.size - 1, by
    have : 0 < Try.prog.types.size := of_decide_eq_true (by kernel_rfl)
    omega⟩
  have hkt := Try.arrKey.keyType hsz
  obtain ⟨m0, hm0⟩ := hsz
  have hlen : (kyl F Z).length = Try.prog.cellsOf 142 := by rw [Try.arrKey.size, kyl_len]
  unfold keyOf kyv
  simp only [Try.underlying142]
  rw [if_pos (by simp [hkt, Value.formed, Try.underlying142, Try.arrKey.size, kyl_len]), hm0]
  unfold Program.keyLits
  simp only [Try.underlying142, Value.cells]
  rw [if_pos (by simpa using hlen)]
  obtain ⟨ys, hys⟩ := mapM_some (f := fun i => Try.prog.keyLits (m0 + 1) 5 (((kyl F Z).drop (i * Try.prog.cellsOf 5)).take (Try.prog.cellsOf 5))) (l := List.range 30) (fun i hi => by
    have hi' : i < 30 := List.mem_range.1 hi
    rw [Try.arrKey.one, Nat.mul_one]
    have e : ((kyl F Z).drop i).take 1 = [kyf F Z i] := by
      have hl : i < (kyl F Z).length := by rw [kyl_len]; exact hi'
      rw [List.drop_eq_getElem_cons hl]
      have := kyl_get (F := F) (Z := Z) hi'
      rw [List.getElem?_eq_getElem hl] at this
      simp only [Option.some.injEq] at this
      simp [this]
    rw [e]
    unfold Program.keyLits kyf
    simp only [Try.underlying5]
    refine ⟨_, if_pos ⟨trivial, ?_⟩⟩
    by_cases hiF : i < F
    · rw [if_pos hiF]
      have := h9 i hiF
      simp [Lit.wf, IntKind.min, IntKind.max, IntKind.signed, IntKind.bits]
      omega
    · rw [if_neg hiF]
      decide)
  refine ⟨.string (keyBytes ys.flatten), ?_⟩
  simp only [hys]
  rfl

theorem load_row {w : World} {g : Nat} {cs : Array Value} (hg : w.heap[g]? = some (.cells cs 142 (0, 0))) (hs : cs.size = 30) : (Instr.loadAt 142 (.pointer (some ⟨g, 0, none⟩))).run Try.prog w = .ok (.agg cs) w := by
  have hi : (Try.prog.info? 142).map (·.size) = some cs.size := by rw [hs]; kernel_rfl
  simp only [Instr.loadAt, Instr.sureAddr, Sem.run_bind, Sem.run_pure, Result.andThen_ok, run_loadVar_row w g 142 142 cs (0, 0) _ hg Try.underlying142 rfl hi]

theorem store_row {w : World} {g : Nat} {old cs : Array Value} (hg : w.heap[g]? = some (.cells old 142 (0, 0))) (ho : old.size = 30) (hs : cs.size = 30) (h1 : cs.all (·.oneCell') = true) :
    (Instr.storeAt 142 (.pointer (some ⟨g, 0, none⟩)) (.agg cs)).run Try.prog w = .ok () (w.setRow g cs) := by
  have hi : (Try.prog.info? 142).map (·.size) = some cs.size := by rw [hs]; kernel_rfl
  simp only [Instr.storeAt, Instr.sureAddr, Sem.run_bind, Sem.run_pure, Result.andThen_ok, run_storeVar_row w g 142 142 old cs hg hi (by omega) h1]

theorem wpList_load118 {ops : Array Oper} {rest : List Oper} {op : Oper} {a : Act} {w : World} {Q : Exit → Act → World → Prop} (hgd : op.guard = none) (x : Operand) (ho : op.op = .load 142 x) (g : Nat) (hx : a.eval x = .pointer (some ⟨g, 0, none⟩)) (cs : Array Value)
    (hg : w.heap[g]? = some (.cells cs 142 (0, 0))) (hs : cs.size = 30) (h : wpList Try.prog ops Q rest (a.put op.dst (.agg cs)) w) : wpList Try.prog ops Q (op :: rest) a w :=
  wpList_plain hgd fun _ hK => by
    unfold Oper.wp execOp
    simp only [ho, hx, Sem.run_bind, Sem.run_pure, Result.andThen_ok, load_row hg hs]
    exact hK _ _ h

theorem wpList_store118 {ops : Array Oper} {rest : List Oper} {op : Oper} {a : Act} {w : World} {Q : Exit → Act → World → Prop} (hgd : op.guard = none) (x y : Operand) (ho : op.op = .store 142 x y) (g : Nat) (cs : Array Value) (hx : a.eval x = .pointer (some ⟨g, 0, none⟩)) (hy : a.eval y = .agg cs) (old : Array Value)
    (hg : w.heap[g]? = some (.cells old 142 (0, 0))) (h0 : old.size = 30) (hs : cs.size = 30) (h1 : cs.all (·.oneCell') = true) (h : wpList Try.prog ops Q rest (a.put op.dst undef) (w.setRow g cs)) : wpList Try.prog ops Q (op :: rest) a w :=
  wpList_plain hgd fun _ hK => by
    unfold Oper.wp execOp
    simp only [ho, hx, hy, Sem.run_bind, Sem.run_pure, Result.andThen_ok, store_row hg h0 hs h1]
    exact hK _ _ h

theorem row_arr {w : World} {g : Nat} {F : Nat} {Z : Nat → Int} (h : w.rowIs g 142 30 (kyf F Z)) : w.heap[g]? = some (.cells (kyl F Z).toArray 142 (0, 0)) := by
  obtain ⟨c, h1, h2, h3⟩ := h
  have e : c = (kyl F Z).toArray := by
    apply Array.ext_getElem?
    intro i
    by_cases hi : i < 30
    · rw [h3 i hi]
      simp [kyl_get hi]
    · rw [Array.getElem?_eq_none (by omega), Array.getElem?_eq_none (by simp [kyl_len]; omega)]
  rw [h1, e]

theorem kyl_one (F : Nat) (Z : Nat → Int) : (kyl F Z).toArray.all (·.oneCell') = true := all_oneCell_toArray (fun v hv => by
  obtain ⟨i, _, rfl⟩ := List.mem_map.1 hv
  rfl)

/-- What keyOf has laid till flow k. -/
structure Kyd (w wr : World) (F : Nat) (Z : Nat → Int) (k : Nat) : Prop where
  below : Below w.heap.size w wr
  zero : wr.rowIs w.heap.size 142 30 (fun _ => .int .u8 0)
  row : wr.rowIs (w.heap.size + 1) 142 30 (fun i => .int .u8 (if i < k then Z i else 0))

def Z30 : Array Value := #[.int .u8 0, .int .u8 0, .int .u8 0, .int .u8 0, .int .u8 0, .int .u8 0, .int .u8 0, .int .u8 0, .int .u8 0, .int .u8 0, .int .u8 0, .int .u8 0, .int .u8 0, .int .u8 0, .int .u8 0, .int .u8 0, .int .u8 0, .int .u8 0, .int .u8 0, .int .u8 0, .int .u8 0, .int .u8 0, .int .u8 0, .int .u8 0, .int .u8 0, .int .u8 0, .int .u8 0, .int .u8 0, .int .u8 0, .int .u8 0]

theorem z30_row (w : World) : (w.alloc (.cells Z30 142)).rowIs w.heap.size 142 30 (fun _ => .int .u8 0) := by
  refine ⟨Z30, Go.Deep.blk_alloc_new _ _, rfl, fun i hi => ?_⟩
  have h : ∀ j, j < 30 → Z30[j]? = some (.int .u8 0) := by
    have e : Z30 = Array.replicate 30 (.int .u8 0) := rfl
    intro j hj
    rw [e]
    simp [hj]
  exact h i hi

theorem kyd_start (w : World) (F : Nat) (Z : Nat → Int) : Kyd w ((w.alloc (.cells Z30 142)).alloc (.cells Z30 142)) F Z 0 := by
  refine ⟨(box_below _ _).trans ((box_below _ _).mono (by simp)), (z30_row w).alloc _, ?_⟩
  have := z30_row (w.alloc (.cells Z30 142))
  have e : (w.alloc (.cells Z30 142)).heap.size = w.heap.size + 1 := by simp
  rw [e] at this
  exact this.congr (fun i _ => by simp)

theorem Kyd.next {w wr : World} {F : Nat} {Z : Nat → Int} {k : Nat} (h : Kyd w wr F Z k) : Kyd w (wr.setCell ⟨w.heap.size + 1, k, none⟩ (.int .u8 (Z k))) F Z (k + 1) := by
  refine ⟨h.below.setCell (by show w.heap.size ≤ w.heap.size + 1; omega) _, ?_, ?_⟩
  · obtain ⟨c, h1, h2⟩ := h.zero
    exact ⟨c, (Below.heap_setCell _ _ _ _ (by show w.heap.size ≠ w.heap.size + 1; omega)).trans h1, h2⟩
  · refine (h.row.set k _).congr (fun i _ => ?_)
    by_cases e : i = k
    · subst e
      simp
    · by_cases e2 : i < k
      · simp [e, e2, Nat.lt_succ_of_lt e2]
      · simp [e, e2, show ¬ i < k + 1 by omega]

set_option maxRecDepth 20000 in
set_option maxHeartbeats 1000000 in
theorem keyOf_any (a : Option Addr) (F c : Nat) (Z : Nat → Int) (w : World) (hF : F ≤ 30) (h9 : ∀ i, i < F → 0 ≤ Z i ∧ Z i ≤ 9) (h : Row w a F Z) :
    Calls Try.prog 91 #[.slice a F c] w fun e w' => e = .returned (kyv F Z) ∧ Below w.heap.size w w' := by
  obtain ⟨b, o, ha, hc⟩ := h
  have HC : Hid (∀ i, i < F → w.cell? ⟨b, o + i, none⟩ = some (.int .i64 (Z i))) := hc
  have H9 : Hid (∀ i, i < F → 0 ≤ Z i ∧ Z i ≤ 9) := h9
  clear hc h9
  have HS : Hid (Kyd w ((w.alloc (.cells Z30 142)).alloc (.cells Z30 142)) F Z 0) := kyd_start w F Z
  go_enter Try.func91, Try.ntmps91
  go_wp2
  go_loopw [8] (fun i wr => ∃ k : Nat, k ≤ F ∧ i = .int .i64 k ∧ Hid (Kyd w wr F Z k)) (fun i _ => F - (intOf i).toNat)
  case atStart => exact ⟨0, Nat.zero_le _, rfl, HS.out⟩
  case round =>
    obtain ⟨k, hk, rfl, HT⟩ := hrel
    clear HS
    by_cases hlt : k < F
    · obtain rfl := ha (by omega)
      have hck := row_at HC.out HT.out.below hlt
      have hz := H9.out k hlt
      have hw8 : IntKind.u8.wrap (Z k) = Z k := by rw [IntKind.wrap_u8]; omega
      have hk30 : (k : Int) < 30 := by omega
      have hck2 : wr.cell? ⟨w.heap.size + 1, k, none⟩ = some (.int .u8 (if k < k then Z k else 0)) := HT.out.row.cell (by omega)
      rw [if_neg (Nat.lt_irrefl k)] at hck2
      have hfr := HT.out.row.frozen k
      have HN : Hid (Kyd w (wr.setCell ⟨w.heap.size + 1, k, none⟩ (.int .u8 (Z k))) F Z (k + 1)) := HT.out.next
      clear HT
      go_wp2
      go_roundw
      case rel => exact ⟨k + 1, by omega, by go_num, HN.out⟩
      case measure => simp [intOf]; omega
    · obtain rfl : F = k := by omega
      have hr := row_arr (F := F) (Z := Z) HT.out.row
      obtain ⟨old, ho1, ho2, _⟩ := HT.out.zero
      have HR : Hid (wr.heap[w.heap.size + 1]? = some (.cells (kyl F Z).toArray 142 (0, 0)) ∧ wr.heap[w.heap.size]? = some (.cells old 142 (0, 0)) ∧ old.size = 30 ∧ (kyl F Z).toArray.size = 30) := ⟨hr, ho1, ho2, by simp [kyl_len]⟩
      have HX : Hid ((wr.setRow w.heap.size (kyl F Z).toArray).heap[w.heap.size]? = some (.cells (kyl F Z).toArray 142 (0, 0)) ∧ Below w.heap.size w (wr.setRow w.heap.size (kyl F Z).toArray)) := ⟨setRow_heap _ _ _ _ _ _ ho1, below_setRow HT.out.below (Nat.le_refl _) _⟩
      clear HT hr ho1 ho2
      go_wp2_with (first | (refine wpList_load118 rfl _ rfl (w.heap.size + 1) rfl (kyl F Z).toArray HR.out.1 HR.out.2.2.2 ?_) | (refine wpList_store118 rfl _ _ rfl w.heap.size (kyl F Z).toArray rfl rfl old HR.out.2.1 HR.out.2.2.1 HR.out.2.2.2 (kyl_one F Z) ?_))
      (try simp only [Exit.inBlock, Exit.then])
      refine bodyPost_ret (results_cell_row rfl _ _ w.heap.size 142 (kyl F Z).toArray (0, 0) _ rfl HX.out.1 Try.underlying142 rfl (by simp only [List.size_toArray, kyl_len]; kernel_rfl)) rfl ?_
      exact ⟨rfl, HX.out.2⟩

end Go.Proofs.Ytjenkhphngiphaa

namespace Go.Proofs.Ytjenkhphngiphaa
open Go.RowKit Go.Maps

/-! ### Blocks by their tags -/
def otag : Obj → Option TypeId
  | .cells _ t _ => some t
  | _ => none

/-- All blocks whose tags are in L stay. -/
def Kp (L : List (Option TypeId)) (w w' : World) : Prop := ∀ (i : Nat) (o : Obj), w.heap[i]? = some o → otag o ∈ L → w'.heap[i]? = some o

theorem Kp.refl (L : List (Option TypeId)) (w : World) : Kp L w w := fun _ _ h _ => h

theorem Kp.trans {L : List (Option TypeId)} {a b c : World} (h : Kp L a b) (k : Kp L b c) : Kp L a c := fun i o ho ht => k i o (h i o ho ht) ht

theorem Kp.sub {L M : List (Option TypeId)} {a b : World} (h : Kp L a b) (hs : ∀ t, t ∈ M → t ∈ L) : Kp M a b := fun i o ho ht => h i o ho (hs _ ht)

theorem kp_below {L : List (Option TypeId)} {w w' : World} (h : Below w.heap.size w w') : Kp L w w' := fun i o ho _ => by
  rw [h.block i (Array.getElem?_eq_some_iff.1 ho).1]
  exact ho

theorem kp_alloc {L : List (Option TypeId)} (w : World) (o : Obj) : Kp L w (w.alloc o) := kp_below (box_below _ _)

theorem kp_set {L : List (Option TypeId)} {w : World} {r i : Nat} {c : Array Value} {t : TypeId} {fr : Nat × Nat} (h : w.heap[r]? = some (.cells c t fr)) (ht : some t ∉ L) (u : Value) : Kp L w (w.setCell ⟨r, i, none⟩ u) := fun j o ho htg => by
  by_cases e : j = r
  · subst e
    rw [h] at ho
    cases ho
    exact absurd htg ht
  · exact (Below.heap_setCell w ⟨r, i, none⟩ u j e).trans ho

theorem kp_row {L : List (Option TypeId)} {w w' : World} {base s n : Nat} {t : TypeId} {v : Value} {xs : List Value} (hown : w.ownsRow base t s v n xs) (hg : w.grownBy w' v.ownBlock) (ht : some t ∉ L) : Kp L w w' := fun j o ho htg => by
  refine (hg.block j (Array.getElem?_eq_some_iff.1 ho).1 (fun e => ?_)).trans ho
  rcases hown.2 with ⟨rfl, _⟩ | ⟨g, cap, cur, rfl, _, hh, _⟩
  · cases e
  · cases e
    rw [hh] at ho
    cases ho
    exact ht htg

theorem kp_map {L : List (Option TypeId)} {w w' : World} {k : TypeId} {R : Value → Option (DataW Unit × List MemPlace)} {b n : Nat} {D : DataW Unit} (hown : w.ownsMap Try.prog k R b n D) (hg : w.grownBy w' (some b)) (ht : none ∉ L) : Kp L w w' := fun j o ho htg => by
  refine (hg.block j (Array.getElem?_eq_some_iff.1 ho).1 (fun e => ?_)).trans ho
  obtain ⟨es, clock, hb, _⟩ := hown
  cases e
  rw [hb] at ho
  cases ho
  exact ht htg

/-- What is new may be written over. -/
theorem Kp.new {L : List (Option TypeId)} {w0 w w' : World} {row : Option Nat} (h : Kp L w0 w) (hg : w.grownBy w' row) (hs : w0.heap.size ≤ w.heap.size) (hr : ∀ b, row = some b → w0.heap.size ≤ b) : Kp L w0 w' := fun j o ho ht => by
  have hj := (Array.getElem?_eq_some_iff.1 ho).1
  refine (hg.block j (by omega) (fun e => ?_)).trans (h j o ho ht)
  have := hr j e.symm
  omega

theorem row_kp {L : List (Option TypeId)} {w w' : World} {base s n : Nat} {t : TypeId} {v : Value} {xs : List Value} (h : w.ownsRow base t s v n xs) (hk : Kp L w w') (ht : some t ∈ L) : w'.ownsRow base t s v n xs := by
  obtain ⟨h1, h2⟩ := h
  refine ⟨h1, ?_⟩
  rcases h2 with h2 | ⟨g, cap, cur, e, hb, hg, h3⟩
  · exact Or.inl h2
  · exact Or.inr ⟨g, cap, cur, e, hb, hk g _ hg ht, h3⟩

theorem mk_kp {L : List (Option TypeId)} {w w' : World} {g n : Nat} {Z : Nat → Int} (h : Mk w g n Z) (hk : Kp L w w') (ht : some 3 ∈ L) : Mk w' g n Z := by
  obtain ⟨c, hc⟩ := mk_tag h
  exact h.of_block ((hk g _ hc ht).trans hc.symm)

theorem map_kp {L : List (Option TypeId)} {w w' : World} {k : TypeId} {R : Value → Option (DataW Unit × List MemPlace)} {b n : Nat} {D : DataW Unit} (h : w.ownsMap Try.prog k R b n D) (hk : Kp L w w') (ht : none ∈ L) : w'.ownsMap Try.prog k R b n D := by
  obtain ⟨es, clock, hb, h2⟩ := h
  exact ⟨es, clock, hk b _ hb ht, h2⟩

/-! ### Pairs -/
def pvals (C : List (Int × Int)) : List Value := C.flatMap fun p => [.int .i64 p.1, .int .i64 p.2]

theorem pvals_snoc (C : List (Int × Int)) (a b : Int) : pvals C ++ [.int .i64 a, .int .i64 b] = pvals (C ++ [(a, b)]) := by simp [pvals]

theorem pvals_len (C : List (Int × Int)) : (pvals C).length = C.length * 2 := by
  induction C with
  | nil => rfl
  | cons p C ih => simp only [pvals, List.flatMap_cons, List.length_append, List.length_cons, List.length_nil] at *; omega

theorem pvals_get : ∀ (C : List (Int × Int)) (i : Nat), i < C.length → (pvals C)[i * 2]? = some (.int .i64 (C.getD i (0, 0)).1) ∧ (pvals C)[i * 2 + 1]? = some (.int .i64 (C.getD i (0, 0)).2)
  | [], i, hi => by simp at hi
  | p :: C, 0, _ => by simp [pvals]
  | p :: C, i + 1, hi => by
    have := pvals_get C i (by simpa using hi)
    have e : (i + 1) * 2 = i * 2 + 1 + 1 := by omega
    rw [e]
    simpa [pvals] using this

theorem pvals_one (C : List (Int × Int)) : ∀ u ∈ pvals C, u.oneCell' = true := by
  intro u hu
  obtain ⟨p, _, h⟩ := List.mem_flatMap.1 hu
  simp only [List.mem_cons, List.not_mem_nil, or_false] at h
  rcases h with rfl | rfl <;> rfl

/-- The pairs C lie at a. -/
def Prs (w : World) (a : Option Addr) (C : List (Int × Int)) : Prop :=
  ∃ b o, (0 < C.length → a = some ⟨b, o, none⟩) ∧ ∀ i, i < C.length → w.cell? ⟨b, o + i * 2, none⟩ = some (.int .i64 (C.getD i (0, 0)).1) ∧ w.cell? ⟨b, o + i * 2 + 1, none⟩ = some (.int .i64 (C.getD i (0, 0)).2)

theorem add_none2 (b o j : Nat) : (⟨b, o, none⟩ : Addr).add j = ⟨b, o + j, none⟩ := by unfold Addr.add; split <;> simp_all

theorem owns_prs {w : World} {base n : Nat} {t : TypeId} {v : Value} {C : List (Int × Int)} (h : w.ownsRow base t 2 v n (pvals C)) (hn : n = C.length) :
    ∃ a c, v = .slice a n c ∧ n ≤ c ∧ Prs w a C := by
  subst hn
  rcases h.2 with ⟨rfl, h0⟩ | ⟨g, cap, cur, rfl, hb, hg, hcap, _⟩
  · exact ⟨none, 0, by rw [h0], by omega, 0, 0, fun hh => by omega, fun i hi => by omega⟩
  · refine ⟨some ⟨g, 0, none⟩, cap, rfl, hcap, g, 0, fun _ => rfl, fun i hi => ?_⟩
    obtain ⟨h1, h2⟩ := pvals_get C i hi
    have c1 := h.cells (g := g) rfl _ _ h1
    have c2 := h.cells (g := g) rfl _ _ h2
    rw [add_none2] at c1 c2
    exact ⟨c1, c2⟩

/-! ### The search's own block -/
def Srch (w : World) (r : Nat) (b0 b1 b2 b3 b4 : Value) (tk st : Int) (mv nv : Value) (mb : Nat) (cv : Value) : Prop :=
  w.heap[r]? = some (.cells #[b0, b1, b2, b3, b4, .int .i64 tk, .int .i64 st, mv, nv, .map (some mb), cv] 111 (0, 0))

theorem srch_cells {w : World} {r : Nat} {b0 b1 b2 b3 b4 : Value} {tk st : Int} {mv nv : Value} {mb : Nat} {cv : Value} (h : Srch w r b0 b1 b2 b3 b4 tk st mv nv mb cv) :
    (w.cell? ⟨r, 0, none⟩ = some b0 ∧ w.cell? ⟨r, 1, none⟩ = some b1 ∧ w.cell? ⟨r, 2, none⟩ = some b2 ∧ w.cell? ⟨r, 3, none⟩ = some b3 ∧ w.cell? ⟨r, 4, none⟩ = some b4) ∧
      w.cell? ⟨r, 5, none⟩ = some (.int .i64 tk) ∧ w.cell? ⟨r, 6, none⟩ = some (.int .i64 st) ∧ w.cell? ⟨r, 7, none⟩ = some mv ∧ w.cell? ⟨r, 8, none⟩ = some nv ∧ w.cell? ⟨r, 9, none⟩ = some (.map (some mb)) ∧ w.cell? ⟨r, 10, none⟩ = some cv :=
  ⟨⟨cell_of_cells h rfl, cell_of_cells h rfl, cell_of_cells h rfl, cell_of_cells h rfl, cell_of_cells h rfl⟩, cell_of_cells h rfl, cell_of_cells h rfl, cell_of_cells h rfl, cell_of_cells h rfl, cell_of_cells h rfl, cell_of_cells h rfl⟩

theorem srch_frozen {w : World} {r : Nat} {b0 b1 b2 b3 b4 : Value} {tk st : Int} {mv nv : Value} {mb : Nat} {cv : Value} (h : Srch w r b0 b1 b2 b3 b4 tk st mv nv mb cv) (i : Nat) : w.frozen? ⟨r, i, none⟩ = false := by
  unfold Srch at h
  simp [World.frozen?, h]

theorem srch_lt {w : World} {r : Nat} {b0 b1 b2 b3 b4 : Value} {tk st : Int} {mv nv : Value} {mb : Nat} {cv : Value} (h : Srch w r b0 b1 b2 b3 b4 tk st mv nv mb cv) : r < w.heap.size := (Array.getElem?_eq_some_iff.1 h).1

theorem srch_set7 {w : World} {r : Nat} {b0 b1 b2 b3 b4 : Value} {tk st : Int} {mv nv : Value} {mb : Nat} {cv : Value} (h : Srch w r b0 b1 b2 b3 b4 tk st mv nv mb cv) (u : Value) : Srch (w.setCell ⟨r, 7, none⟩ u) r b0 b1 b2 b3 b4 tk st u nv mb cv := by
  unfold Srch at *
  simp [World.setCell, Array.getElem?_modify, h]

theorem srch_set8 {w : World} {r : Nat} {b0 b1 b2 b3 b4 : Value} {tk st : Int} {mv nv : Value} {mb : Nat} {cv : Value} (h : Srch w r b0 b1 b2 b3 b4 tk st mv nv mb cv) (u : Value) : Srch (w.setCell ⟨r, 8, none⟩ u) r b0 b1 b2 b3 b4 tk st mv u mb cv := by
  unfold Srch at *
  simp [World.setCell, Array.getElem?_modify, h]

theorem srch_set10 {w : World} {r : Nat} {b0 b1 b2 b3 b4 : Value} {tk st : Int} {mv nv : Value} {mb : Nat} {cv : Value} (h : Srch w r b0 b1 b2 b3 b4 tk st mv nv mb cv) (u : Value) : Srch (w.setCell ⟨r, 10, none⟩ u) r b0 b1 b2 b3 b4 tk st mv nv mb u := by
  unfold Srch at *
  simp [World.setCell, Array.getElem?_modify, h]

theorem srch_kp {L : List (Option TypeId)} {w w' : World} {r : Nat} {b0 b1 b2 b3 b4 : Value} {tk st : Int} {mv nv : Value} {mb : Nat} {cv : Value} (h : Srch w r b0 b1 b2 b3 b4 tk st mv nv mb cv) (hk : Kp L w w') (ht : some 111 ∈ L) : Srch w' r b0 b1 b2 b3 b4 tk st mv nv mb cv := hk r _ h ht

/-! ### The markings' numbers -/
/-- A marking, as a list of F numbers. -/
def Shp (F : Nat) (m : List Int) : Prop := m = lst F (fnl m) ∧ ∀ i, i < F → 0 ≤ fnl m i ∧ fnl m i ≤ 9

theorem shp_lst {F : Nat} {Z : Nat → Int} (h : ∀ i, i < F → 0 ≤ Z i ∧ Z i ≤ 9) : Shp F (lst F Z) :=
  ⟨(lst_congr (fun i hi => (fnl_lst hi).symm)), fun i hi => by rw [fnl_lst hi]; exact h i hi⟩

theorem shp_ext {F : Nat} {m m' : List Int} (h : Shp F m) (h' : Shp F m') (e : ∀ i, i < F → fnl m i = fnl m' i) : m = m' := by
  rw [h.1, h'.1]
  exact lst_congr e

/-- The map D has each marking's number. -/
def Nmd (F : Nat) (marks : List (List Int)) (D : DataW Unit) : Prop := ∀ m kl, Shp F m → keyOf Try.prog 142 (kyv F (fnl m)) = some kl →
  (Maps.has D kl = true ↔ m ∈ marks) ∧ (m ∈ marks → D.atKey kl (.lit (.int .i64 0)) = .lit (.int .i64 ((marks.idxOf m : Nat) : Int)))

theorem nmd_start (F : Nat) : Nmd F [] (.map []) := fun m kl _ _ => ⟨by simp [has_eq], fun h => by cases h⟩

theorem nmd_put {F : Nat} {marks : List (List Int)} {D : DataW Unit} (hF : F ≤ 30) (h : Nmd F marks D) (hD : IsMap D) {m' : List Int} (hm : Shp F m') (hn : m' ∉ marks) {kl' : Lit} (hk : keyOf Try.prog 142 (kyv F (fnl m')) = some kl') :
    Nmd F (marks ++ [m']) (D.put kl' (.lit (.int .i64 ((marks.length : Nat) : Int)))) := by
  intro m kl hs hkl
  by_cases e : m = m'
  · subst e
    obtain rfl : kl = kl' := by rw [hkl] at hk; exact Option.some.inj hk
    refine ⟨⟨fun _ => by simp, fun _ => has_put_same hD (Try.keyed.key hkl) _⟩, fun _ => ?_⟩
    rw [atKey_put_same hD (Try.keyed.key hkl)]
    have : (marks ++ [m]).idxOf m = marks.length := by
      rw [List.idxOf_append, if_neg hn]
      simp
    rw [this]
  · have hne : kl ≠ kl' := fun e2 => by
      subst e2
      have := Try.keyed.inj hkl hk
      exact e (shp_ext hs hm (kyv_inj hF this))
    obtain ⟨h1, h2⟩ := h m kl hs hkl
    rw [has_put_other hne, atKey_put_other hne]
    refine ⟨h1.trans (by simp [e]), fun hmem => ?_⟩
    have hmm : m ∈ marks := by
      rcases List.mem_append.1 hmem with h3 | h3
      · exact h3
      · exact absurd (List.mem_singleton.1 h3) e
    rw [h2 hmm, List.idxOf_append, if_pos hmm]

/-! ### All of it -/
/-- The lists of edges. -/
def Nxs (w : World) (base : Nat) (nv : Value) (nexts : List (List (Int × Int))) : Prop :=
  ∃ Vs, w.ownsRow base 56 1 nv nexts.length Vs ∧ ∀ i, i < nexts.length → ∃ v, Vs[i]? = some v ∧ w.ownsRow base 58 2 v (nexts.getD i []).length (pvals (nexts.getD i []))

theorem nxs_kp {L : List (Option TypeId)} {w w' : World} {base : Nat} {nv : Value} {nexts : List (List (Int × Int))} (h : Nxs w base nv nexts) (hk : Kp L w w') (h1 : some 56 ∈ L) (h2 : some 58 ∈ L) : Nxs w' base nv nexts := by
  obtain ⟨Vs, h3, h4⟩ := h
  refine ⟨Vs, row_kp h3 hk h1, fun i hi => ?_⟩
  obtain ⟨v, h5, h6⟩ := h4 i hi
  exact ⟨v, h5, row_kp h6 hk h2⟩

/-- The markings. -/
def Mks (w : World) (base : Nat) (mv : Value) (F : Nat) (marks : List (List Int)) : Prop := ∃ G, Mrs w base mv F marks.length (fun i => fnl (marks.getD i [])) G

theorem mks_kp {L : List (Option TypeId)} {w w' : World} {base F : Nat} {mv : Value} {marks : List (List Int)} (h : Mks w base mv F marks) (hk : Kp L w w') (h1 : some 26 ∈ L) (h2 : some 3 ∈ L) : Mks w' base mv F marks := by
  obtain ⟨G, ⟨Vs, h3, h4⟩, h5⟩ := h
  exact ⟨G, ⟨Vs, row_kp h3 hk h1, h4⟩, fun i hi => mk_kp (h5 i hi) hk h2⟩

structure Xr (w : World) (base r mb : Nat) (b0 b1 b2 b3 b4 : Value) (tk st : Int) (F : Nat) (marks : List (List Int)) (nexts : List (List (Int × Int))) (C : List (Int × Int)) (mv nv cv : Value) (D : DataW Unit) : Prop where
  hr : base ≤ r
  hmb : base ≤ mb
  blk : Srch w r b0 b1 b2 b3 b4 tk st mv nv mb cv
  mks : Mks w base mv F marks
  nxs : Nxs w base nv nexts
  cam : w.ownsRow base 114 2 cv C.length (pvals C)
  map : w.ownsMap Try.prog 142 (plainElem Try.prog 3) mb marks.length D
  nmd : Nmd F marks D
  len : C.length = marks.length
  shp : ∀ m, m ∈ marks → Shp F m

theorem xr_kp {L : List (Option TypeId)} {w w' : World} {base r mb : Nat} {b0 b1 b2 b3 b4 : Value} {tk st : Int} {F : Nat} {marks : List (List Int)} {nexts : List (List (Int × Int))} {C : List (Int × Int)} {mv nv cv : Value} {D : DataW Unit}
    (h : Xr w base r mb b0 b1 b2 b3 b4 tk st F marks nexts C mv nv cv D) (hk : Kp L w w') (hL : ∀ t, t ∈ [some 111, some 26, some 3, some 114, (none : Option TypeId)] → t ∈ L) (hn : Nxs w' base nv nexts) : Xr w' base r mb b0 b1 b2 b3 b4 tk st F marks nexts C mv nv cv D :=
  ⟨h.hr, h.hmb, srch_kp h.blk hk (hL _ (by simp)), mks_kp h.mks hk (hL _ (by simp)) (hL _ (by simp)), hn, row_kp h.cam hk (hL _ (by simp)), map_kp h.map hk (hL _ (by simp)), h.nmd, h.len, h.shp⟩

theorem Xr.below {w w' : World} {base r mb : Nat} {b0 b1 b2 b3 b4 : Value} {tk st : Int} {F : Nat} {marks : List (List Int)} {nexts : List (List (Int × Int))} {C : List (Int × Int)} {mv nv cv : Value} {D : DataW Unit}
    (h : Xr w base r mb b0 b1 b2 b3 b4 tk st F marks nexts C mv nv cv D) (hb : Below w.heap.size w w') : Xr w' base r mb b0 b1 b2 b3 b4 tk st F marks nexts C mv nv cv D :=
  xr_kp (L := [some 111, some 26, some 3, some 114, none]) h (kp_below hb) (fun _ h => h) (nxs_kp (L := [some 56, some 58]) h.nxs (kp_below hb) (by simp) (by simp))

end Go.Proofs.Ytjenkhphngiphaa
