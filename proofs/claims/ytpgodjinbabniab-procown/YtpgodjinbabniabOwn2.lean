/- Lists of nodes and flows with room behind them; edges that are written over. -/
import Derived.Test.YtpgodjinbabniabOwn
import Derived.Test.YtpgodjinbabniabSpSame
import Derived.Deep.RegionHeld3
import Derived.Deep.CutRange
import Derived.Laws.OwnMore
namespace Go.Proofs.Ytpgodjinbabniab
open Go.RowKit Go.Maps

/-- 'append(v, s...)' at a step of a drawn region, s a slice of whatever memory, nil too. -/
theorem step_append_any {P : Program} {w : World} {ops : Array Oper} {o : Oper} {a : Act} {K : Act → World → Prop} {Q : Exit → Act → World → Prop} {E : Prop} (hgd : o.guard = none) (s x : Operand) (t : TypeId)
    (ho : o.op = .call { callee := .builtin .append, args := #[s, x], argTypes := #[t, t] })
    (base : Nat) (e : TypeId) (i : TypeInfo) (z : Value) (size bytes : Nat) (ht : P.underlying t = some (.slice e)) (hi : P.info? e = some i) (hz : i.zero = some z)
    (hsize : i.size = size) (hby : i.bytes = bytes) (hzs : z.cells.size = size) (hsz : 0 < size)
    (v : Value) (n : Nat) (xs : List Value) (hs : a.eval s = v) (hown : w.ownsRow base e size v n xs)
    (b : Option Addr) (m c : Nat) (news : List Value) (hx : a.eval x = .slice b m c) (hl : news.length = m * size) (hnews : ∀ ad, b = some ad → ∀ j u, news[j]? = some u → w.cell? (ad.add j) = some u) (h1 : ∀ u ∈ news, u.oneCell' = true)
    (hnil : b = none → m = 0 ∧ c = 0) (h63 : n + m ≤ maxLen) (hbytes : (n + m) * bytes ≤ 140737488355328) (hbase : base ≤ w.heap.size)
    (h : ∀ v' w', w'.ownsRow base e size v' (n + m) (xs ++ news) → w.grownBy w' v.ownBlock → K (a.put o.dst v') w') :
    if Region.wanted o (yielded ops a.tmps) = true then Oper.wp P o a w K Q else E := by
  have hw : Region.wanted o (yielded ops a.tmps) = true := by simp [Region.wanted, hgd]
  rw [if_pos hw]
  cases b with
  | some ad =>
    obtain ⟨v', w', hr, h2, h3, _, _⟩ := run_append_own_at (P := P) w base t o.type e i z size bytes ht hi hz hsize hby hzs hsz v n xs hown ad m c news hl (hnews ad rfl) h1 h63 hbytes hbase
    unfold Oper.wp execOp
    simp only [ho, resolve, invoke, builtin, Sem.run_bind, Sem.run_pure, Result.andThen_ok, List.map_toArray, List.map_cons, List.map_nil, hs, hx, hr]
    exact h v' w' h2 h3
  | none =>
    obtain ⟨rfl, rfl⟩ := hnil rfl
    have hn0 : news = [] := List.eq_nil_of_length_eq_zero (by omega)
    subst hn0
    have hr := run_append_owned_none (P := P) (w := w) base t o.type e i size ht hi v n xs hown
    unfold Oper.wp execOp
    simp only [ho, resolve, invoke, builtin, Sem.run_bind, Sem.run_pure, Result.andThen_ok, List.map_toArray, List.map_cons, List.map_nil, hs, hx, hr]
    exact h v w (by simpa using hown) ⟨rfl, rfl, rfl, Nat.le_refl _, fun _ _ _ => rfl⟩

/-- N structs of two cells, and two more behind them, in the room. -/
def Rp (w : World) (B : Nat) (t : TypeId) (v : Value) (N : Nat) (f g : Nat → Value) (x y : Value) : Prop :=
  ∃ b cap, v = .slice (some ⟨b, 0, none⟩) N cap ∧ w.ownsRow B t 2 (.slice (some ⟨b, 0, none⟩) (N + 2) cap) (N + 2) (vals2 f g N ++ [x, y, x, y])

theorem Rp.below {w w' : World} {B : Nat} {t : TypeId} {v : Value} {N : Nat} {f g : Nat → Value} {x y : Value} (h : Rp w B t v N f g x y) (hb : Below w.heap.size w w') : Rp w' B t v N f g x y := by
  obtain ⟨b, cap, h1, h2⟩ := h
  exact ⟨b, cap, h1, below_ownsRow h2 hb⟩

theorem Rp.cells {w : World} {B : Nat} {t : TypeId} {v : Value} {N : Nat} {f g : Nat → Value} {x y : Value} (h : Rp w B t v N f g x y) :
    ∃ b cap, v = .slice (some ⟨b, 0, none⟩) N cap ∧ N + 2 ≤ cap ∧ (∀ i, i < N → w.cell? ⟨b, 0 + i * 2, none⟩ = some (f i) ∧ w.cell? ⟨b, 0 + i * 2 + 1, none⟩ = some (g i)) ∧
      (w.cell? ⟨b, N * 2, none⟩ = some x ∧ w.cell? ⟨b, N * 2 + 1, none⟩ = some y) ∧ w.cell? ⟨b, (N + 1) * 2, none⟩ = some x ∧ w.cell? ⟨b, (N + 1) * 2 + 1, none⟩ = some y := by
  obtain ⟨b, cap, rfl, h⟩ := h
  have hl := vals2_len f g N
  have hcap : N + 2 ≤ cap := by
    rcases h.2 with ⟨e, _⟩ | ⟨b', cap', cur, e, _, _, hc, _⟩
    · cases e
    · cases e
      exact hc
  have at_ : ∀ j u, (vals2 f g N ++ [x, y, x, y])[j]? = some u → w.cell? ⟨b, j, none⟩ = some u := fun j u hu => by
    have := h.cells (g := b) rfl j u hu
    rw [add_none3, Nat.zero_add] at this
    exact this
  refine ⟨b, cap, rfl, hcap, fun i hi => ?_, ⟨at_ _ _ ?_, at_ _ _ ?_⟩, at_ _ _ ?_, at_ _ _ ?_⟩
  · obtain ⟨h1, h2⟩ := vals2_get f g N i hi
    rw [Nat.zero_add]
    exact ⟨at_ _ _ (by rw [List.getElem?_append_left (by omega)]; exact h1), at_ _ _ (by rw [List.getElem?_append_left (by omega)]; exact h2)⟩
  · rw [List.getElem?_append_right (by omega), hl, Nat.sub_self]; rfl
  · rw [List.getElem?_append_right (by omega), hl, show N * 2 + 1 - N * 2 = 1 by omega]; rfl
  · rw [List.getElem?_append_right (by omega), hl, show (N + 1) * 2 - N * 2 = 2 by omega]; rfl
  · rw [List.getElem?_append_right (by omega), hl, show (N + 1) * 2 + 1 - N * 2 = 3 by omega]; rfl

theorem rp_of {w : World} {B : Nat} {t : TypeId} {v : Value} {N : Nat} {f g : Nat → Value} {x y : Value} (h : w.ownsRow B t 2 v (N + 2) (vals2 f g N ++ [x, y, x, y])) :
    ∃ b cap, v = .slice (some ⟨b, 0, none⟩) (N + 2) cap ∧ ((N : Int) ≤ cap) ∧ Hid (Rp w B t (.slice (some ⟨b, 0, none⟩) N cap) N f g x y) := by
  rcases h.2 with ⟨_, h0⟩ | ⟨b, cap, cur, rfl, _, _, hc, _⟩
  · omega
  · exact ⟨b, cap, rfl, by omega, b, cap, rfl, h⟩

theorem rp_base {w : World} {B B' : Nat} {t : TypeId} {v : Value} {N : Nat} {f g : Nat → Value} {x y : Value} (h : Rp w B t v N f g x y) (hb : B' ≤ B) : Rp w B' t v N f g x y := by
  obtain ⟨b, cap, h1, h2⟩ := h
  exact ⟨b, cap, h1, owns_base h2 hb⟩

theorem new_at {u : World} {o o' : Obj} {k : Nat} (hk : k = u.heap.size + 1) : ((u.alloc o).alloc o').heap[k]? = some o' := by
  subst hk
  have e : (u.alloc o).heap.size = u.heap.size + 1 := by simp
  rw [← e]
  exact heap_alloc_new _ _

theorem old_at {u : World} {o o' : Obj} {k : Nat} (hk : k = u.heap.size) : ((u.alloc o).alloc o').heap[k]? = some o := by
  subst hk
  rw [Below.heap_alloc _ _ _ (by simp)]
  exact heap_alloc_new _ _

theorem made_at {u : World} {o : Obj} {k base e s cap : Nat} {cur : Array Value} (hk : k = u.heap.size + 1) (hb : base ≤ u.heap.size) (hm : cap ≤ maxLen) (hs : cur.size = cap * s) : ((u.alloc o).alloc (.cells cur e)).ownsRow base e s (.slice (some ⟨k, 0, none⟩) 0 cap) 0 [] := by
  subst hk
  have e1 : (u.alloc o).heap.size = u.heap.size + 1 := by simp
  rw [← e1]
  exact World.ownsRow_made _ cur cap (by rw [e1]; omega) hm hs

theorem news4 {w : World} {b : Nat} {x y : Value} {t : TypeId} (h : w.heap[b]? = some (.cells #[x, y, x, y] t (0, 0))) : ∀ j u, [x, y, x, y][j]? = some u → w.cell? ((⟨b, 0, none⟩ : Addr).add j) = some u := World.news_of_block (cs := #[x, y, x, y]) h

set_option maxHeartbeats 4000000 in
set_option maxRecDepth 20000 in
theorem roomyN_any {na : Option Addr} {N nc : Nat} {f g : Nat → Value} {w : World} (hN : N * 24 ≤ 140737488351232) (h : ∃ b o, (0 < N → na = some ⟨b, o, none⟩) ∧ ∀ i, i < N → w.cell? ⟨b, o + i * 2, none⟩ = some (f i) ∧ w.cell? ⟨b, o + i * 2 + 1, none⟩ = some (g i)) (hnil : na = none → N = 0 ∧ nc = 0) (hf : ∀ i, (f i).oneCell' = true) (hg : ∀ i, (g i).oneCell' = true) :
    Calls Try.prog 31 #[.slice na N nc, .agg #[.string ByteArray.empty, .int .i64 9]] w fun e w' => ∃ v, e = .returned v ∧ Rp w' w.heap.size 68 v N f g (.string ByteArray.empty) (.int .i64 9) ∧ Below w.heap.size w w' := by
  have HC : Hid (∀ u, Below w.heap.size w u → ∀ ad, na = some ad → ∀ j v, (vals2 f g N)[j]? = some v → u.cell? (ad.add j) = some v) := fun u hu ad ha j v hv => by
    obtain ⟨b, o, h1, h2⟩ := h
    have hN0 : 0 < N := by
      have := (List.getElem?_eq_some_iff.1 hv).1
      rw [vals2_len] at this
      omega
    obtain rfl : ad = ⟨b, o, none⟩ := by have := h1 hN0; rw [ha] at this; exact Option.some.inj this
    have := vals2_cell h2 j v hv
    exact (hu.cell (p := (⟨b, o, none⟩ : Addr).add j) (World.block_lt_of_cell? _ _ this)).trans this
  have HO : Hid ((vals2 f g N).length = N * 2 ∧ (∀ u ∈ vals2 f g N, u.oneCell' = true)) := ⟨vals2_len f g N, vals2_one hf hg⟩
  have HN : Hid (na = none → N = 0 ∧ nc = 0) := hnil
  obtain ⟨i0, hi, hz0, hz1, hz2⟩ := info_parts Try.info68
  have HI : Hid (Try.prog.info? 68 = some i0 ∧ i0.zero = some (.agg #[.string ByteArray.empty, .int .i64 0]) ∧ i0.size = 2 ∧ i0.bytes = 24) := ⟨hi, hz0, hz1, hz2⟩
  have hmk : ∀ u : World, (Instr.makeSlice 22 (.int .i64 0) (.int .i64 ((N : Int) + 3))).run Try.prog u = .ok (.slice (some ⟨u.heap.size, 0, none⟩) 0 (N + 3)) (u.alloc (.cells (madeCells (.agg #[.string ByteArray.empty, .int .i64 0] : Value).cells ((N + 3) * 2)) 68)) := fun u => by
    have h := run_make (P := Try.prog) u 22 68 i0 (.agg #[.string ByteArray.empty, .int .i64 0]) Try.underlying22 hi hz0 .i64 .i64 0 ((N : Int) + 3) (by omega) (by omega) (by rw [hz2]; omega) (by omega)
    have e : ((N : Int) + 3).toNat = N + 3 := by omega
    rw [e] at h
    simpa [hz1, Value.cells] using h
  clear hi hz0 hz1 hz2 h hnil hf hg
  have hwN : IntKind.i64.wrap ((N : Int) + 3) = (N : Int) + 3 := by rw [IntKind.wrap_i64]; omega
  obtain ⟨W, eW⟩ : ∃ u, u = w.alloc (.cells #[.string ByteArray.empty, .int .i64 9] 68) := ⟨_, rfl⟩
  have HW : Hid (Below w.heap.size w W ∧ W.heap.size = w.heap.size + 1 ∧ W.heap.size = w.heap.size + 1) := by subst eW; exact ⟨box_below _ _, by simp, by simp⟩
  have HEW : Hid (w.alloc (.cells #[.string ByteArray.empty, .int .i64 9] 68) = W) := eW.symm
  have HBx : Hid (∀ u, Below W.heap.size W u → u.cell? ⟨w.heap.size, 0, none⟩ = some (.string ByteArray.empty) ∧ u.cell? ⟨w.heap.size, 1, none⟩ = some (.int .i64 9)) := fun u hu => by
    subst eW
    exact ⟨new_alloc hu rfl, new_alloc hu rfl⟩
  have HBw : Hid (∀ u, Below W.heap.size W u → Below w.heap.size w u) := fun u hu => HW.out.1.trans (hu.mono HW.out.1.size)
  obtain ⟨c0, c1⟩ := HBx.out W (Below.refl _ _)
  have hWs : w.heap.size < W.heap.size := by have := HW.out.2.1; omega
  have HMd : Hid (∀ u : World, W.heap.size ≤ u.heap.size → (u.alloc (.cells (madeCells (.agg #[.string ByteArray.empty, .int .i64 0] : Value).cells ((N + 3) * 2)) 68)).ownsRow W.heap.size 68 2 (.slice (some ⟨u.heap.size, 0, none⟩) 0 (N + 3)) 0 []) := fun u hu =>
    World.ownsRow_made u _ (N + 3) hu (by unfold maxLen; omega) (by simp [size_madeCells, Value.cells])
  have HMs : Hid ((madeCells (.agg #[.string ByteArray.empty, .int .i64 0] : Value).cells ((N + 3) * 2)).size = (N + 3) * 2) := by simp [Hid, size_madeCells]
  generalize hmc : madeCells (.agg #[.string ByteArray.empty, .int .i64 0] : Value).cells ((N + 3) * 2) = mcs at *
  clear hmc
  clear eW
  go_enter Try.func31, Try.ntmps31
  go_wp2
  rw [HEW.out]
  go_cut [5] from 6 to 15 (fun v wc => ∃ b cap, v = .slice (some ⟨b, 0, none⟩) (N + 2) cap ∧ ((N : Int) ≤ cap) ∧ Hid (Rp wc w.heap.size 68 (.slice (some ⟨b, 0, none⟩) N cap) N f g (.string ByteArray.empty) (.int .i64 9) ∧ Below w.heap.size w wc))
  case first =>
    go_region_held3 (fun u => u.cell? ⟨w.heap.size, 0, none⟩ = some (.string ByteArray.empty) ∧ u.cell? ⟨w.heap.size, 1, none⟩ = some (.int .i64 9))
      (first | exact HBx.out _ hb15 | exact HBx.out _ (hb11.alloc hb11.size _) | exact HBx.out _ hb11 | exact HBx.out _ (below_drew_iff.2 (Below.refl _ _)) | exact HBx.out _ ((below_drew_iff.2 (Below.refl _ _)).alloc (Nat.le_refl _) _) | exact HBx.out _ (((below_drew_iff.2 (Below.refl _ _)).alloc (Nat.le_refl _) _).alloc (by first | omega | (simp; done) | (simp; omega)) _))
      (first
        | (refine step_append_any (by rfl) _ _ _ (by rfl) W.heap.size 68 i0 _ 2 24 Try.underlying22 HI.out.1 HI.out.2.1 HI.out.2.2.1 HI.out.2.2.2 rfl (by omega) (.slice (some ⟨W.heap.size, 0, none⟩) 0 (N + 3)) 0 [] (by rfl) (HMd.out _ (Nat.le_refl _)) na N nc (vals2 f g N) (by rfl) HO.out.1 (HC.out _ (HBw.out _ ((below_drew_iff.2 (Below.refl _ _)).alloc (Nat.le_refl _) _))) HO.out.2 HN.out (by unfold maxLen; omega) (by omega) (by first | omega | (simp; done) | (simp; omega)) ?_
           intro v11 w11 hown hgrow
           rw [Nat.zero_add, List.nil_append] at hown
           have hb11 : Below W.heap.size W w11 := Below.grown ((below_drew_iff.2 (Below.refl _ _)).alloc (Nat.le_refl _) _) hgrow (by first | omega | (simp; done) | (simp; omega)) (fun b h => by cases h; exact Nat.le_refl _)
           have HO11 : Hid (w11.ownsRow W.heap.size 68 2 v11 N (vals2 f g N)) := hown
           have hs11 : W.heap.size ≤ w11.heap.size := hb11.size
           clear hown hgrow)
        | (refine step_append_any (by rfl) _ _ _ (by rfl) W.heap.size 68 i0 _ 2 24 Try.underlying22 HI.out.1 HI.out.2.1 HI.out.2.2.1 HI.out.2.2.2 rfl (by omega) (.slice (some ⟨W.heap.size + 1, 0, none⟩) 0 (N + 3)) 0 [] (by rfl) (made_at rfl (Nat.le_refl _) (by unfold maxLen; omega) HMs.out) na N nc (vals2 f g N) (by rfl) HO.out.1 (HC.out _ (HBw.out _ (((below_drew_iff.2 (Below.refl _ _)).alloc (Nat.le_refl _) _).alloc (by first | omega | (simp; done) | (simp; omega)) _))) HO.out.2 HN.out (by unfold maxLen; omega) (by omega) (by first | omega | (simp; done) | (simp; omega)) ?_
           intro v11 w11 hown hgrow
           rw [Nat.zero_add, List.nil_append] at hown
           have hb11 : Below W.heap.size W w11 := Below.grown (((below_drew_iff.2 (Below.refl _ _)).alloc (Nat.le_refl _) _).alloc (by first | omega | (simp; done) | (simp; omega)) _) hgrow (by first | omega | (simp; done) | (simp; omega)) (fun b h => by cases h; exact Nat.le_succ _)
           have HO11 : Hid (w11.ownsRow W.heap.size 68 2 v11 N (vals2 f g N)) := hown
           have hs11 : W.heap.size ≤ w11.heap.size := hb11.size
           have HC4 : Hid (w11.heap[W.heap.size]? = some (.cells #[.string ByteArray.empty, .int .i64 9, .string ByteArray.empty, .int .i64 9] 68 (0, 0))) := (hgrow.block W.heap.size (by first | omega | (simp; done) | (simp; omega)) (by simp [Value.ownBlock])).trans (old_at rfl)
           clear hown hgrow)
        | (refine step_append_any (by rfl) _ _ _ (by rfl) W.heap.size 68 i0 _ 2 24 Try.underlying22 HI.out.1 HI.out.2.1 HI.out.2.2.1 HI.out.2.2.2 rfl (by omega) (.slice (some ⟨W.heap.size, 0, none⟩) 0 (N + 3)) 0 [] (by rfl) ((HMd.out W.drew (Nat.le_refl _)).alloc _) na N nc (vals2 f g N) (by rfl) HO.out.1 (HC.out _ (HBw.out _ (((below_drew_iff.2 (Below.refl _ _)).alloc (Nat.le_refl _) _).alloc (by first | omega | (simp; done) | (simp; omega)) _))) HO.out.2 HN.out (by unfold maxLen; omega) (by omega) (by first | omega | (simp; done) | (simp; omega)) ?_
           intro v11 w11 hown hgrow
           rw [Nat.zero_add, List.nil_append] at hown
           have hb11 : Below W.heap.size W w11 := Below.grown (((below_drew_iff.2 (Below.refl _ _)).alloc (Nat.le_refl _) _).alloc (by first | omega | (simp; done) | (simp; omega)) _) hgrow (by first | omega | (simp; done) | (simp; omega)) (fun b h => by cases h; exact Nat.le_refl _)
           have HO11 : Hid (w11.ownsRow W.heap.size 68 2 v11 N (vals2 f g N)) := hown
           have hs11 : W.heap.size ≤ w11.heap.size := hb11.size
           have HC5 : Hid (w11.heap[W.heap.size + 1]? = some (.cells #[.string ByteArray.empty, .int .i64 9, .string ByteArray.empty, .int .i64 9] 68 (0, 0))) := (hgrow.block (W.heap.size + 1) (by first | omega | (simp; done) | (simp; omega)) (by simp [Value.ownBlock])).trans (new_at rfl)
           clear hown hgrow)
        | (refine step_append_any (by rfl) _ _ _ (by rfl) W.heap.size 68 i0 _ 2 24 Try.underlying22 HI.out.1 HI.out.2.1 HI.out.2.2.1 HI.out.2.2.2 rfl (by omega) v11 N (vals2 f g N) (by rfl) (HO11.out.alloc _) (some ⟨w11.heap.size, 0, none⟩) 2 2 [.string ByteArray.empty, .int .i64 9, .string ByteArray.empty, .int .i64 9] (by rfl) (by rfl) (fun ad h => by cases h; exact news4 (heap_alloc_new w11 _)) (by simp [Value.oneCell']) (by intro h; cases h) (by unfold maxLen; omega) (by omega) (by first | exact hs11 | omega | (simp; done) | (simp; omega)) ?_
           intro v15 w15 hown hgrow
           have hb15 : Below W.heap.size W w15 := Below.grown (hb11.alloc hs11 _) hgrow (by first | exact hs11 | omega | (simp; done) | (simp; omega)) (fun b h => (HO11.out.lt b h).1)
           obtain ⟨gz, cz, rfl, hcz, HRz⟩ := rp_of hown
           clear hown hgrow)
        | (refine step_append_any (by rfl) _ _ _ (by rfl) W.heap.size 68 i0 _ 2 24 Try.underlying22 HI.out.1 HI.out.2.1 HI.out.2.2.1 HI.out.2.2.2 rfl (by omega) v11 N (vals2 f g N) (by rfl) HO11.out (some ⟨W.heap.size, 0, none⟩) 2 2 [.string ByteArray.empty, .int .i64 9, .string ByteArray.empty, .int .i64 9] (by rfl) (by rfl) (fun ad h => by cases h; exact news4 HC4.out) (by simp [Value.oneCell']) (by intro h; cases h) (by unfold maxLen; omega) (by omega) (by first | exact hs11 | omega | (simp; done) | (simp; omega)) ?_
           intro v15 w15 hown hgrow
           have hb15 : Below W.heap.size W w15 := Below.grown hb11 hgrow (by first | exact hs11 | omega | (simp; done) | (simp; omega)) (fun b h => (HO11.out.lt b h).1)
           obtain ⟨gz, cz, rfl, hcz, HRz⟩ := rp_of hown
           clear hown hgrow)
        | (refine step_append_any (by rfl) _ _ _ (by rfl) W.heap.size 68 i0 _ 2 24 Try.underlying22 HI.out.1 HI.out.2.1 HI.out.2.2.1 HI.out.2.2.2 rfl (by omega) v11 N (vals2 f g N) (by rfl) HO11.out (some ⟨W.heap.size + 1, 0, none⟩) 2 2 [.string ByteArray.empty, .int .i64 9, .string ByteArray.empty, .int .i64 9] (by rfl) (by rfl) (fun ad h => by cases h; exact news4 HC5.out) (by simp [Value.oneCell']) (by intro h; cases h) (by unfold maxLen; omega) (by omega) (by first | exact hs11 | omega | (simp; done) | (simp; omega)) ?_
           intro v15 w15 hown hgrow
           have hb15 : Below W.heap.size W w15 := Below.grown hb11 hgrow (by first | exact hs11 | omega | (simp; done) | (simp; omega)) (fun b h => (HO11.out.lt b h).1)
           obtain ⟨gz, cz, rfl, hcz, HRz⟩ := rp_of hown
           clear hown hgrow)
        | fail)
    all_goals go_wp2_with fail
    all_goals go_meet
    all_goals exact ⟨gz, cz, rfl, hcz, rp_base HRz.out (Nat.le_of_lt hWs), HBw.out _ hb15⟩
  case rest =>
    obtain ⟨b, cap, rfl, hcap, H2⟩ := hcut
    go_wp2
    go_ret
    exact ⟨_, rfl, H2.out⟩

set_option maxHeartbeats 4000000 in
set_option maxRecDepth 20000 in
theorem roomyF_any {na : Option Addr} {N nc : Nat} {f g : Nat → Value} {w : World} (hN : N * 16 ≤ 140737488351232) (h : ∃ b o, (0 < N → na = some ⟨b, o, none⟩) ∧ ∀ i, i < N → w.cell? ⟨b, o + i * 2, none⟩ = some (f i) ∧ w.cell? ⟨b, o + i * 2 + 1, none⟩ = some (g i)) (hnil : na = none → N = 0 ∧ nc = 0) (hf : ∀ i, (f i).oneCell' = true) (hg : ∀ i, (g i).oneCell' = true) :
    Calls Try.prog 32 #[.slice na N nc, .agg #[.int .i64 0, .int .i64 99]] w fun e w' => ∃ v, e = .returned v ∧ Rp w' w.heap.size 71 v N f g (.int .i64 0) (.int .i64 99) ∧ Below w.heap.size w w' := by
  have HC : Hid (∀ u, Below w.heap.size w u → ∀ ad, na = some ad → ∀ j v, (vals2 f g N)[j]? = some v → u.cell? (ad.add j) = some v) := fun u hu ad ha j v hv => by
    obtain ⟨b, o, h1, h2⟩ := h
    have hN0 : 0 < N := by
      have := (List.getElem?_eq_some_iff.1 hv).1
      rw [vals2_len] at this
      omega
    obtain rfl : ad = ⟨b, o, none⟩ := by have := h1 hN0; rw [ha] at this; exact Option.some.inj this
    have := vals2_cell h2 j v hv
    exact (hu.cell (p := (⟨b, o, none⟩ : Addr).add j) (World.block_lt_of_cell? _ _ this)).trans this
  have HO : Hid ((vals2 f g N).length = N * 2 ∧ (∀ u ∈ vals2 f g N, u.oneCell' = true)) := ⟨vals2_len f g N, vals2_one hf hg⟩
  have HN : Hid (na = none → N = 0 ∧ nc = 0) := hnil
  obtain ⟨i0, hi, hz0, hz1, hz2⟩ := info_parts Try.info71
  have HI : Hid (Try.prog.info? 71 = some i0 ∧ i0.zero = some (.agg #[.int .i64 0, .int .i64 0]) ∧ i0.size = 2 ∧ i0.bytes = 16) := ⟨hi, hz0, hz1, hz2⟩
  have hmk : ∀ u : World, (Instr.makeSlice 23 (.int .i64 0) (.int .i64 ((N : Int) + 3))).run Try.prog u = .ok (.slice (some ⟨u.heap.size, 0, none⟩) 0 (N + 3)) (u.alloc (.cells (madeCells (.agg #[.int .i64 0, .int .i64 0] : Value).cells ((N + 3) * 2)) 71)) := fun u => by
    have h := run_make (P := Try.prog) u 23 71 i0 (.agg #[.int .i64 0, .int .i64 0]) Try.underlying23 hi hz0 .i64 .i64 0 ((N : Int) + 3) (by omega) (by omega) (by rw [hz2]; omega) (by omega)
    have e : ((N : Int) + 3).toNat = N + 3 := by omega
    rw [e] at h
    simpa [hz1, Value.cells] using h
  clear hi hz0 hz1 hz2 h hnil hf hg
  have hwN : IntKind.i64.wrap ((N : Int) + 3) = (N : Int) + 3 := by rw [IntKind.wrap_i64]; omega
  obtain ⟨W, eW⟩ : ∃ u, u = w.alloc (.cells #[.int .i64 0, .int .i64 99] 71) := ⟨_, rfl⟩
  have HW : Hid (Below w.heap.size w W ∧ W.heap.size = w.heap.size + 1 ∧ W.heap.size = w.heap.size + 1) := by subst eW; exact ⟨box_below _ _, by simp, by simp⟩
  have HEW : Hid (w.alloc (.cells #[.int .i64 0, .int .i64 99] 71) = W) := eW.symm
  have HBx : Hid (∀ u, Below W.heap.size W u → u.cell? ⟨w.heap.size, 0, none⟩ = some (.int .i64 0) ∧ u.cell? ⟨w.heap.size, 1, none⟩ = some (.int .i64 99)) := fun u hu => by
    subst eW
    exact ⟨new_alloc hu rfl, new_alloc hu rfl⟩
  have HBw : Hid (∀ u, Below W.heap.size W u → Below w.heap.size w u) := fun u hu => HW.out.1.trans (hu.mono HW.out.1.size)
  obtain ⟨c0, c1⟩ := HBx.out W (Below.refl _ _)
  have hWs : w.heap.size < W.heap.size := by have := HW.out.2.1; omega
  have HMd : Hid (∀ u : World, W.heap.size ≤ u.heap.size → (u.alloc (.cells (madeCells (.agg #[.int .i64 0, .int .i64 0] : Value).cells ((N + 3) * 2)) 71)).ownsRow W.heap.size 71 2 (.slice (some ⟨u.heap.size, 0, none⟩) 0 (N + 3)) 0 []) := fun u hu =>
    World.ownsRow_made u _ (N + 3) hu (by unfold maxLen; omega) (by simp [size_madeCells, Value.cells])
  have HMs : Hid ((madeCells (.agg #[.int .i64 0, .int .i64 0] : Value).cells ((N + 3) * 2)).size = (N + 3) * 2) := by simp [Hid, size_madeCells]
  generalize hmc : madeCells (.agg #[.int .i64 0, .int .i64 0] : Value).cells ((N + 3) * 2) = mcs at *
  clear hmc
  clear eW
  go_enter Try.func32, Try.ntmps32
  go_wp2
  rw [HEW.out]
  go_cut [5] from 6 to 15 (fun v wc => ∃ b cap, v = .slice (some ⟨b, 0, none⟩) (N + 2) cap ∧ ((N : Int) ≤ cap) ∧ Hid (Rp wc w.heap.size 71 (.slice (some ⟨b, 0, none⟩) N cap) N f g (.int .i64 0) (.int .i64 99) ∧ Below w.heap.size w wc))
  case first =>
    go_region_held3 (fun u => u.cell? ⟨w.heap.size, 0, none⟩ = some (.int .i64 0) ∧ u.cell? ⟨w.heap.size, 1, none⟩ = some (.int .i64 99))
      (first | exact HBx.out _ hb15 | exact HBx.out _ (hb11.alloc hb11.size _) | exact HBx.out _ hb11 | exact HBx.out _ (below_drew_iff.2 (Below.refl _ _)) | exact HBx.out _ ((below_drew_iff.2 (Below.refl _ _)).alloc (Nat.le_refl _) _) | exact HBx.out _ (((below_drew_iff.2 (Below.refl _ _)).alloc (Nat.le_refl _) _).alloc (by first | omega | (simp; done) | (simp; omega)) _))
      (first
        | (refine step_append_any (by rfl) _ _ _ (by rfl) W.heap.size 71 i0 _ 2 16 Try.underlying23 HI.out.1 HI.out.2.1 HI.out.2.2.1 HI.out.2.2.2 rfl (by omega) (.slice (some ⟨W.heap.size, 0, none⟩) 0 (N + 3)) 0 [] (by rfl) (HMd.out _ (Nat.le_refl _)) na N nc (vals2 f g N) (by rfl) HO.out.1 (HC.out _ (HBw.out _ ((below_drew_iff.2 (Below.refl _ _)).alloc (Nat.le_refl _) _))) HO.out.2 HN.out (by unfold maxLen; omega) (by omega) (by first | omega | (simp; done) | (simp; omega)) ?_
           intro v11 w11 hown hgrow
           rw [Nat.zero_add, List.nil_append] at hown
           have hb11 : Below W.heap.size W w11 := Below.grown ((below_drew_iff.2 (Below.refl _ _)).alloc (Nat.le_refl _) _) hgrow (by first | omega | (simp; done) | (simp; omega)) (fun b h => by cases h; exact Nat.le_refl _)
           have HO11 : Hid (w11.ownsRow W.heap.size 71 2 v11 N (vals2 f g N)) := hown
           have hs11 : W.heap.size ≤ w11.heap.size := hb11.size
           clear hown hgrow)
        | (refine step_append_any (by rfl) _ _ _ (by rfl) W.heap.size 71 i0 _ 2 16 Try.underlying23 HI.out.1 HI.out.2.1 HI.out.2.2.1 HI.out.2.2.2 rfl (by omega) (.slice (some ⟨W.heap.size + 1, 0, none⟩) 0 (N + 3)) 0 [] (by rfl) (made_at rfl (Nat.le_refl _) (by unfold maxLen; omega) HMs.out) na N nc (vals2 f g N) (by rfl) HO.out.1 (HC.out _ (HBw.out _ (((below_drew_iff.2 (Below.refl _ _)).alloc (Nat.le_refl _) _).alloc (by first | omega | (simp; done) | (simp; omega)) _))) HO.out.2 HN.out (by unfold maxLen; omega) (by omega) (by first | omega | (simp; done) | (simp; omega)) ?_
           intro v11 w11 hown hgrow
           rw [Nat.zero_add, List.nil_append] at hown
           have hb11 : Below W.heap.size W w11 := Below.grown (((below_drew_iff.2 (Below.refl _ _)).alloc (Nat.le_refl _) _).alloc (by first | omega | (simp; done) | (simp; omega)) _) hgrow (by first | omega | (simp; done) | (simp; omega)) (fun b h => by cases h; exact Nat.le_succ _)
           have HO11 : Hid (w11.ownsRow W.heap.size 71 2 v11 N (vals2 f g N)) := hown
           have hs11 : W.heap.size ≤ w11.heap.size := hb11.size
           have HC4 : Hid (w11.heap[W.heap.size]? = some (.cells #[.int .i64 0, .int .i64 99, .int .i64 0, .int .i64 99] 71 (0, 0))) := (hgrow.block W.heap.size (by first | omega | (simp; done) | (simp; omega)) (by simp [Value.ownBlock])).trans (old_at rfl)
           clear hown hgrow)
        | (refine step_append_any (by rfl) _ _ _ (by rfl) W.heap.size 71 i0 _ 2 16 Try.underlying23 HI.out.1 HI.out.2.1 HI.out.2.2.1 HI.out.2.2.2 rfl (by omega) (.slice (some ⟨W.heap.size, 0, none⟩) 0 (N + 3)) 0 [] (by rfl) ((HMd.out W.drew (Nat.le_refl _)).alloc _) na N nc (vals2 f g N) (by rfl) HO.out.1 (HC.out _ (HBw.out _ (((below_drew_iff.2 (Below.refl _ _)).alloc (Nat.le_refl _) _).alloc (by first | omega | (simp; done) | (simp; omega)) _))) HO.out.2 HN.out (by unfold maxLen; omega) (by omega) (by first | omega | (simp; done) | (simp; omega)) ?_
           intro v11 w11 hown hgrow
           rw [Nat.zero_add, List.nil_append] at hown
           have hb11 : Below W.heap.size W w11 := Below.grown (((below_drew_iff.2 (Below.refl _ _)).alloc (Nat.le_refl _) _).alloc (by first | omega | (simp; done) | (simp; omega)) _) hgrow (by first | omega | (simp; done) | (simp; omega)) (fun b h => by cases h; exact Nat.le_refl _)
           have HO11 : Hid (w11.ownsRow W.heap.size 71 2 v11 N (vals2 f g N)) := hown
           have hs11 : W.heap.size ≤ w11.heap.size := hb11.size
           have HC5 : Hid (w11.heap[W.heap.size + 1]? = some (.cells #[.int .i64 0, .int .i64 99, .int .i64 0, .int .i64 99] 71 (0, 0))) := (hgrow.block (W.heap.size + 1) (by first | omega | (simp; done) | (simp; omega)) (by simp [Value.ownBlock])).trans (new_at rfl)
           clear hown hgrow)
        | (refine step_append_any (by rfl) _ _ _ (by rfl) W.heap.size 71 i0 _ 2 16 Try.underlying23 HI.out.1 HI.out.2.1 HI.out.2.2.1 HI.out.2.2.2 rfl (by omega) v11 N (vals2 f g N) (by rfl) (HO11.out.alloc _) (some ⟨w11.heap.size, 0, none⟩) 2 2 [.int .i64 0, .int .i64 99, .int .i64 0, .int .i64 99] (by rfl) (by rfl) (fun ad h => by cases h; exact news4 (heap_alloc_new w11 _)) (by simp [Value.oneCell']) (by intro h; cases h) (by unfold maxLen; omega) (by omega) (by first | exact hs11 | omega | (simp; done) | (simp; omega)) ?_
           intro v15 w15 hown hgrow
           have hb15 : Below W.heap.size W w15 := Below.grown (hb11.alloc hs11 _) hgrow (by first | exact hs11 | omega | (simp; done) | (simp; omega)) (fun b h => (HO11.out.lt b h).1)
           obtain ⟨gz, cz, rfl, hcz, HRz⟩ := rp_of hown
           clear hown hgrow)
        | (refine step_append_any (by rfl) _ _ _ (by rfl) W.heap.size 71 i0 _ 2 16 Try.underlying23 HI.out.1 HI.out.2.1 HI.out.2.2.1 HI.out.2.2.2 rfl (by omega) v11 N (vals2 f g N) (by rfl) HO11.out (some ⟨W.heap.size, 0, none⟩) 2 2 [.int .i64 0, .int .i64 99, .int .i64 0, .int .i64 99] (by rfl) (by rfl) (fun ad h => by cases h; exact news4 HC4.out) (by simp [Value.oneCell']) (by intro h; cases h) (by unfold maxLen; omega) (by omega) (by first | exact hs11 | omega | (simp; done) | (simp; omega)) ?_
           intro v15 w15 hown hgrow
           have hb15 : Below W.heap.size W w15 := Below.grown hb11 hgrow (by first | exact hs11 | omega | (simp; done) | (simp; omega)) (fun b h => (HO11.out.lt b h).1)
           obtain ⟨gz, cz, rfl, hcz, HRz⟩ := rp_of hown
           clear hown hgrow)
        | (refine step_append_any (by rfl) _ _ _ (by rfl) W.heap.size 71 i0 _ 2 16 Try.underlying23 HI.out.1 HI.out.2.1 HI.out.2.2.1 HI.out.2.2.2 rfl (by omega) v11 N (vals2 f g N) (by rfl) HO11.out (some ⟨W.heap.size + 1, 0, none⟩) 2 2 [.int .i64 0, .int .i64 99, .int .i64 0, .int .i64 99] (by rfl) (by rfl) (fun ad h => by cases h; exact news4 HC5.out) (by simp [Value.oneCell']) (by intro h; cases h) (by unfold maxLen; omega) (by omega) (by first | exact hs11 | omega | (simp; done) | (simp; omega)) ?_
           intro v15 w15 hown hgrow
           have hb15 : Below W.heap.size W w15 := Below.grown hb11 hgrow (by first | exact hs11 | omega | (simp; done) | (simp; omega)) (fun b h => (HO11.out.lt b h).1)
           obtain ⟨gz, cz, rfl, hcz, HRz⟩ := rp_of hown
           clear hown hgrow)
        | fail)
    all_goals go_wp2_with fail
    all_goals go_meet
    all_goals exact ⟨gz, cz, rfl, hcz, rp_base HRz.out (Nat.le_of_lt hWs), HBw.out _ hb15⟩
  case rest =>
    obtain ⟨b, cap, rfl, hcap, H2⟩ := hcut
    go_wp2
    go_ret
    exact ⟨_, rfl, H2.out⟩

set_option maxHeartbeats 1000000 in
theorem keptN_any {b N cap : Nat} {w : World} (hN : N ≤ 140737488355328) (hc : N + 2 ≤ cap) (h1 : w.cell? ⟨b, N * 2, none⟩ = some (.string ByteArray.empty)) (h2 : w.cell? ⟨b, N * 2 + 1, none⟩ = some (.int .i64 9)) (h3 : w.cell? ⟨b, (N + 1) * 2, none⟩ = some (.string ByteArray.empty)) (h4 : w.cell? ⟨b, (N + 1) * 2 + 1, none⟩ = some (.int .i64 9)) :
    Calls Try.prog 35 #[.slice (some ⟨b, 0, none⟩) N cap, .agg #[.string ByteArray.empty, .int .i64 9]] w fun e w' => e = .returned (.bool true) ∧ Below w.heap.size w w' := by
  have hci : (N : Int) + 2 ≤ cap := by omega
  obtain ⟨W, eW⟩ : ∃ u, u = w.alloc (.cells #[.string ByteArray.empty, .int .i64 9] 68) := ⟨_, rfl⟩
  have HW : Hid (Below w.heap.size w W) := by subst eW; exact box_below _ _
  have HEW : Hid (w.alloc (.cells #[.string ByteArray.empty, .int .i64 9] 68) = W) := eW.symm
  have c0 : W.cell? ⟨w.heap.size, 0, none⟩ = some (.string ByteArray.empty) := by subst eW; exact cell_of_alloc rfl
  have c1 : W.cell? ⟨w.heap.size, 1, none⟩ = some (.int .i64 9) := by subst eW; exact cell_of_alloc rfl
  have g1 : W.cell? ⟨b, N * 2, none⟩ = some (.string ByteArray.empty) := (HW.out.cell (p := ⟨b, N * 2, none⟩) (World.block_lt_of_cell? _ _ h1)).trans h1
  have g2 : W.cell? ⟨b, N * 2 + 1, none⟩ = some (.int .i64 9) := (HW.out.cell (p := ⟨b, N * 2 + 1, none⟩) (World.block_lt_of_cell? _ _ h2)).trans h2
  have g3 : W.cell? ⟨b, (N + 1) * 2, none⟩ = some (.string ByteArray.empty) := (HW.out.cell (p := ⟨b, (N + 1) * 2, none⟩) (World.block_lt_of_cell? _ _ h3)).trans h3
  have g4 : W.cell? ⟨b, (N + 1) * 2 + 1, none⟩ = some (.int .i64 9) := (HW.out.cell (p := ⟨b, (N + 1) * 2 + 1, none⟩) (World.block_lt_of_cell? _ _ h4)).trans h4
  clear eW h1 h2 h3 h4
  go_enter Try.func35, Try.ntmps35
  go_wp2
  rw [HEW.out]
  go_quiet (fail)
  go_wp2
  go_ret
  exact ⟨rfl, below_drewn HW.out _⟩

set_option maxHeartbeats 1000000 in
theorem keptF_any {b N cap : Nat} {w : World} (hN : N ≤ 140737488355328) (hc : N + 2 ≤ cap) (h1 : w.cell? ⟨b, N * 2, none⟩ = some (.int .i64 0)) (h2 : w.cell? ⟨b, N * 2 + 1, none⟩ = some (.int .i64 99)) (h3 : w.cell? ⟨b, (N + 1) * 2, none⟩ = some (.int .i64 0)) (h4 : w.cell? ⟨b, (N + 1) * 2 + 1, none⟩ = some (.int .i64 99)) :
    Calls Try.prog 36 #[.slice (some ⟨b, 0, none⟩) N cap, .agg #[.int .i64 0, .int .i64 99]] w fun e w' => e = .returned (.bool true) ∧ Below w.heap.size w w' := by
  have hci : (N : Int) + 2 ≤ cap := by omega
  obtain ⟨W, eW⟩ : ∃ u, u = w.alloc (.cells #[.int .i64 0, .int .i64 99] 71) := ⟨_, rfl⟩
  have HW : Hid (Below w.heap.size w W) := by subst eW; exact box_below _ _
  have HEW : Hid (w.alloc (.cells #[.int .i64 0, .int .i64 99] 71) = W) := eW.symm
  have c0 : W.cell? ⟨w.heap.size, 0, none⟩ = some (.int .i64 0) := by subst eW; exact cell_of_alloc rfl
  have c1 : W.cell? ⟨w.heap.size, 1, none⟩ = some (.int .i64 99) := by subst eW; exact cell_of_alloc rfl
  have g1 : W.cell? ⟨b, N * 2, none⟩ = some (.int .i64 0) := (HW.out.cell (p := ⟨b, N * 2, none⟩) (World.block_lt_of_cell? _ _ h1)).trans h1
  have g2 : W.cell? ⟨b, N * 2 + 1, none⟩ = some (.int .i64 99) := (HW.out.cell (p := ⟨b, N * 2 + 1, none⟩) (World.block_lt_of_cell? _ _ h2)).trans h2
  have g3 : W.cell? ⟨b, (N + 1) * 2, none⟩ = some (.int .i64 0) := (HW.out.cell (p := ⟨b, (N + 1) * 2, none⟩) (World.block_lt_of_cell? _ _ h3)).trans h3
  have g4 : W.cell? ⟨b, (N + 1) * 2 + 1, none⟩ = some (.int .i64 99) := (HW.out.cell (p := ⟨b, (N + 1) * 2 + 1, none⟩) (World.block_lt_of_cell? _ _ h4)).trans h4
  clear eW h1 h2 h3 h4
  go_enter Try.func36, Try.ntmps36
  go_wp2
  rw [HEW.out]
  go_quiet (fail)
  go_wp2
  go_ret
  exact ⟨rfl, below_drewn HW.out _⟩

set_option maxHeartbeats 1000000 in
theorem equalNd_any (a a' : Option Addr) (n c c' : Nat) (M : Nat → ByteArray) (K : Nat → Int) (w : World) (hn : n ≤ 140737488355328) (h : Nds w a n M K) (h' : Nds w a' n M K) :
    Calls Try.prog 58 #[.slice a n c, .slice a' n c'] w fun e w' => e = .returned (.bool true) ∧ Below w.heap.size w w' := by
  obtain ⟨b, o, ha, hc⟩ := h
  obtain ⟨b', o', ha', hc'⟩ := h'
  go_enter Try.func58, Try.ntmps58
  go_wp2
  go_loopw [13] (fun i wr => ∃ k : Nat, k ≤ n ∧ i = .int .i64 k ∧ ∃ q, wr = w.drewN q) (fun i _ => n - (intOf i).toNat)
  case atStart => exact ⟨0, Nat.zero_le _, rfl, 0, rfl⟩
  case round =>
    obtain ⟨k, hk, rfl, q, rfl⟩ := hrel
    by_cases hlt : k < n
    · obtain rfl := ha (by omega)
      obtain rfl := ha' (by omega)
      obtain ⟨h1, h2⟩ := hc k hlt
      obtain ⟨g1, g2⟩ := hc' k hlt
      have hzk : (k : Int) < n := by omega
      generalize M k = m at *
      generalize K k = κ at *
      clear hc hc' ha ha'
      go_wp2
      go_quiet (fail)
      go_wp2
      go_roundw
      case rel => exact ⟨k + 1, by omega, by go_num, _, rfl⟩
      case measure => simp [intOf]; omega
    · go_wp2
      go_ret
      exact ⟨rfl, below_drewn (Below.refl _ _) q⟩

set_option maxHeartbeats 1000000 in
theorem equalFl_any (a a' : Option Addr) (n c c' : Nat) (A B : Nat → Int) (w : World) (hn : n ≤ 140737488355328) (h : Fls w a n A B) (h' : Fls w a' n A B) :
    Calls Try.prog 59 #[.slice a n c, .slice a' n c'] w fun e w' => e = .returned (.bool true) ∧ Below w.heap.size w w' := by
  obtain ⟨b, o, ha, hc⟩ := h
  obtain ⟨b', o', ha', hc'⟩ := h'
  go_enter Try.func59, Try.ntmps59
  go_wp2
  go_loopw [13] (fun i wr => ∃ k : Nat, k ≤ n ∧ i = .int .i64 k ∧ ∃ q, wr = w.drewN q) (fun i _ => n - (intOf i).toNat)
  case atStart => exact ⟨0, Nat.zero_le _, rfl, 0, rfl⟩
  case round =>
    obtain ⟨k, hk, rfl, q, rfl⟩ := hrel
    by_cases hlt : k < n
    · obtain rfl := ha (by omega)
      obtain rfl := ha' (by omega)
      obtain ⟨h1, h2⟩ := hc k hlt
      obtain ⟨g1, g2⟩ := hc' k hlt
      have hzk : (k : Int) < n := by omega
      generalize A k = x at *
      generalize B k = y at *
      clear hc hc' ha ha'
      go_wp2
      go_quiet (fail)
      go_wp2
      go_roundw
      case rel => exact ⟨k + 1, by omega, by go_num, _, rfl⟩
      case measure => simp [intOf]; omega
    · go_wp2
      go_ret
      exact ⟨rfl, below_drewn (Below.refl _ _) q⟩

set_option maxHeartbeats 2000000 in
theorem sameProc_any (na fa na' fa' : Option Addr) (N nc F fc nc' fc' : Nat) (M : Nat → ByteArray) (K A B : Nat → Int) (w : World) (hN : N ≤ 140737488355328) (hF : F ≤ 140737488355328) (h1 : Nds w na N M K) (h2 : Nds w na' N M K) (h3 : Fls w fa F A B) (h4 : Fls w fa' F A B) :
    Calls Try.prog 34 #[.agg #[.slice na N nc, .slice fa F fc], .agg #[.slice na' N nc', .slice fa' F fc']] w fun e w' => e = .returned (.bool true) ∧ Below w.heap.size w w' := by
  obtain ⟨W, eW⟩ : ∃ v, v = (w.alloc (.cells #[.slice na N nc, .slice fa F fc] 25)).alloc (.cells #[.slice na' N nc', .slice fa' F fc'] 25) := ⟨_, rfl⟩
  have HW : Hid (Below w.heap.size w W ∧ W.cell? ⟨w.heap.size, 0, none⟩ = some (.slice na N nc) ∧ W.cell? ⟨w.heap.size, 1, none⟩ = some (.slice fa F fc) ∧ W.cell? ⟨w.heap.size + 1, 0, none⟩ = some (.slice na' N nc') ∧ W.cell? ⟨w.heap.size + 1, 1, none⟩ = some (.slice fa' F fc')) := by
    subst eW
    have e1 : (w.alloc (.cells #[.slice na N nc, .slice fa F fc] 25)).heap.size = w.heap.size + 1 := by simp
    have g0 : (w.alloc (.cells #[.slice na N nc, .slice fa F fc] 25)).cell? ⟨w.heap.size, 0, none⟩ = some (.slice na N nc) := cell_of_alloc rfl
    have g1 : (w.alloc (.cells #[.slice na N nc, .slice fa F fc] 25)).cell? ⟨w.heap.size, 1, none⟩ = some (.slice fa F fc) := cell_of_alloc rfl
    refine ⟨(box_below _ _).trans ((box_below _ _).mono (by simp)), ((box_below _ _).cell (p := ⟨w.heap.size, 0, none⟩) (World.block_lt_of_cell? _ _ g0)).trans g0, ((box_below _ _).cell (p := ⟨w.heap.size, 1, none⟩) (World.block_lt_of_cell? _ _ g1)).trans g1, ?_, ?_⟩
    · rw [← e1]; exact cell_of_alloc rfl
    · rw [← e1]; exact cell_of_alloc rfl
  have HWe : Hid ((w.alloc (.cells #[.slice na N nc, .slice fa F fc] 25)).alloc (.cells #[.slice na' N nc', .slice fa' F fc'] 25) = W) := eW.symm
  clear eW
  have hv := HW.out.2
  rw [← HWe.out] at hv
  obtain ⟨hv0, hv1, hv2, hv3⟩ := hv
  have C1 : Hid (Calls Try.prog 58 #[.slice na N nc, .slice na' N nc'] W fun e w' => e = .returned (.bool true) ∧ Below W.heap.size W w') := equalNd_any na na' N nc nc' M K W hN (h1.below HW.out.1) (h2.below HW.out.1)
  have C2 : Hid (∀ u, Below W.heap.size W u → Calls Try.prog 59 #[.slice fa F fc, .slice fa' F fc'] u fun e w' => e = .returned (.bool true) ∧ Below u.heap.size u w') := fun u hu => by
    have hu' : Below w.heap.size w u := HW.out.1.trans (hu.mono HW.out.1.size)
    exact equalFl_any fa fa' F fc fc' A B u hF (h3.below hu') (h4.below hu')
  clear h1 h2 h3 h4 hN hF
  go_enter Try.func34, Try.ntmps34
  go_wp2_with fail
  rw [HWe.out]
  refine C1.out.mono ?_
  rintro e w1 ⟨rfl, hb1⟩
  have HB1 : Hid (Below W.heap.size W w1) := hb1
  have k1 := (hb1.cell (p := ⟨w.heap.size, 1, none⟩) (World.block_lt_of_cell? _ _ HW.out.2.2.1)).trans HW.out.2.2.1
  have k3 := (hb1.cell (p := ⟨w.heap.size + 1, 1, none⟩) (World.block_lt_of_cell? _ _ HW.out.2.2.2.2)).trans HW.out.2.2.2.2
  clear hb1 C1 hv0 hv1 hv2 hv3
  go_wp2_with fail
  refine (C2.out w1 HB1.out).mono ?_
  rintro e w2 ⟨rfl, hb2⟩
  have HB2 : Hid (Below w.heap.size w w2) := HW.out.1.trans ((HB1.out.trans (hb2.mono HB1.out.size)).mono HW.out.1.size)
  clear hb2 C2
  go_wp2
  go_ret
  exact ⟨rfl, HB2.out⟩


end Go.Proofs.Ytpgodjinbabniab
