/- What is written over, and what stays; Enabled with its list's room. -/
import Derived.Test.YtpgodjinbabniabOwn2
namespace Go.Proofs.Ytpgodjinbabniab
open Go.RowKit Go.Maps

/-- No error, and the list l, in memory of its own. -/
def LstO (b0 n : Nat) (l : List Int) (e : Ending) (w : World) : Prop := ∃ a c, e = .returned (.tuple #[.slice a n c, .int .i64 0]) ∧ w.ownsRow b0 3 1 (.slice a n c) n (vals l)

set_option maxHeartbeats 1000000 in
theorem enabledF_own {na fa : Option Addr} {N nc F fc : Nat} {M : Nat → ByteArray} {K A B : Nat → Int} {e0 : Int} {w : World} (hp : Prc w na N nc fa F M K A B) (he : ChkIs N F M K A B e0) {ma : Option Addr} {n mc : Nat} {m : Nat → Int} (hn : n ≤ 140737488355328) (hm : Row w ma n m)
    (X : Nat → Int) (hX : ∀ i, i < (stAll K A B F N).length → (X i = 1 ↔ enb K A B F m ((stAll K A B F N).getD i (0, 0, 0)))) :
    Calls Try.prog 14 #[.agg #[.slice na N nc, .slice fa F fc], .slice ma n mc] w fun e w' => Below w.heap.size w w' ∧
      Ans (mkE (spE e0 (stAll K A B F N).length) (mkOk F n m)) (LstO w.heap.size (tally X 1 (stAll K A B F N).length) (fl X 1 (stAll K A B F N).length)) e w' := by
  have HM : Hid (Row w ma n m) := hm
  have HX : Hid (∀ i, i < (stAll K A B F N).length → (X i = 1 ↔ enb K A B F m ((stAll K A B F N).getD i (0, 0, 0)))) := hX
  clear hX
  obtain ⟨W, eW⟩ : ∃ x, x = w.alloc (.cells #[.slice na N nc, .slice fa F fc] 25) := ⟨_, rfl⟩
  have HW : Hid (Below w.heap.size w W) := by subst eW; exact box_below _ _
  have HEW : Hid (w.alloc (.cells #[.slice na N nc, .slice fa F fc] 25) = W) := eW.symm
  have C1 : Hid (Calls Try.prog 40 #[.agg #[.slice na N nc, .slice fa F fc]] W fun e w' => Below W.heap.size W w' ∧ LyIs W.heap.size (spE e0 (stAll K A B F N).length) N F M K A B e w') := lay_any (hp.below HW.out) he
  clear eW hp he hm
  generalize hEE : spE e0 (stAll K A B F N).length = E at *
  go_enter Try.func14, Try.ntmps14
  go_wp2_with fail
  rw [HEW.out]
  refine C1.out.mono ?_
  rintro e w1 ⟨hb1, hs1⟩
  have HBw1 : Hid (Below w.heap.size w w1) := HW.out.trans (hb1.mono HW.out.size)
  clear hb1 C1
  rcases hs1 with ⟨h1, rfl⟩ | ⟨h1, na, nc, fa, fc, sa, sc, ib, ob, _, _, rfl, hbrd⟩
  · have hz' : (E != 0) = true := by rw [bne_iff_ne]; exact h1
    have HZ : Hid (E ≠ 0) := h1
    clear h1
    go_wp2
    go_ret2
    exact ⟨HBw1.out.alloc HBw1.out.size _, by rw [mkE_bad HZ.out]; exact Or.inl ⟨HZ.out, rfl⟩⟩
  · subst h1
    obtain ⟨W2, eW2⟩ : ∃ x, x = w1.alloc (.cells #[.slice na N nc, .slice fa F fc, .slice sa (stAll K A B F N).length sc, .slice (some ⟨ib, 0, none⟩) N N, .slice (some ⟨ob, 0, none⟩) N N] 79) := ⟨_, rfl⟩
    have HW2 : Hid (Below w1.heap.size w1 W2) := by subst eW2; exact box_below _ _
    have HEW2 : Hid (w1.alloc (.cells #[.slice na N nc, .slice fa F fc, .slice sa (stAll K A B F N).length sc, .slice (some ⟨ib, 0, none⟩) N N, .slice (some ⟨ob, 0, none⟩) N N] 79) = W2) := eW2.symm
    have HBw2 : Hid (Below w.heap.size w W2) := HBw1.out.trans (HW2.out.mono HBw1.out.size)
    have C2 : Hid (Calls Try.prog 46 #[.agg #[.slice na N nc, .slice fa F fc, .slice sa (stAll K A B F N).length sc, .slice (some ⟨ib, 0, none⟩) N N, .slice (some ⟨ob, 0, none⟩) N N], .slice ma n mc] W2 fun e w' => Below W2.heap.size W2 w' ∧ ((mkOk F n m = false ∧ e = .returned (.tuple #[.slice none 0 0, .int .i64 1])) ∨ (mkOk F n m = true ∧ (LstO w.heap.size (tally X 1 (stAll K A B F N).length) (fl X 1 (stAll K A B F N).length)) e w'))) := by
      cases hok : mkOk F n m
      · exact (enabledB_bad hn (HM.out.below HBw2.out) hok).mono fun e w' hh => ⟨hh.1, Or.inl ⟨rfl, hh.2⟩⟩
      · obtain ⟨rfl, h9⟩ := mkOk_all hok
        exact (enabledB_own (hbrd.below HW2.out) (HM.out.below HBw2.out) h9 X HX.out).mono fun e w' ⟨h1, a, c, h2, h3⟩ => ⟨h1, Or.inr ⟨rfl, a, c, h2, owns_base h3 HBw2.out.size⟩⟩
    clear eW2 hbrd
    go_wp2_with fail
    rw [HEW2.out]
    refine C2.out.mono ?_
    rintro e w2 ⟨hb2, hf⟩
    have hf2 : ∃ v1 v2, e = .returned (.tuple #[v1, v2]) := by
      rcases hf with ⟨_, rfl⟩ | ⟨_, hf⟩
      · exact ⟨_, _, rfl⟩
      · (obtain ⟨a, c, rfl, _⟩ := hf; exact ⟨_, _, rfl⟩)
    obtain ⟨v1, v2, rfl⟩ := hf2
    have HF : Hid (Below w.heap.size w w2 ∧ Ans (mkE 0 (mkOk F n m)) (LstO w.heap.size (tally X 1 (stAll K A B F N).length) (fl X 1 (stAll K A B F N).length)) (.returned (.tuple #[v1, v2])) w2) := ⟨HBw2.out.trans (hb2.mono HBw2.out.size), ans_all rfl (hf.imp id (fun h => ⟨h.1, h.2⟩))⟩
    clear hb2 hf C2
    go_wp2
    go_ret2
    exact HF.out


/-- Some lists of elements t in memory from lo to below hi have been written over, and there is more memory; all else is as it was. -/
structure Spx (t : TypeId) (lo hi : Nat) (w w' : World) : Prop where
  os : w'.os = w.os
  tape : w'.tape = w.tape
  output : w'.output = w.output
  size : w.heap.size ≤ w'.heap.size
  out : ∀ k : Nat, k < w.heap.size → k < lo ∨ hi ≤ k → w'.heap[k]? = w.heap[k]?
  other : ∀ k : Nat, k < w.heap.size → (∀ c, w.heap[k]? ≠ some (Obj.cells c t (0, 0))) → w'.heap[k]? = w.heap[k]?
  like : ∀ (k : Nat) c, w.heap[k]? = some (Obj.cells c t (0, 0)) → ∃ c', w'.heap[k]? = some (Obj.cells c' t (0, 0)) ∧ c'.size = c.size

theorem Spx.refl (t : TypeId) (lo hi : Nat) (w : World) : Spx t lo hi w w := ⟨rfl, rfl, rfl, Nat.le_refl _, fun _ _ _ => rfl, fun _ _ _ => rfl, fun _ c h => ⟨c, h, rfl⟩⟩

theorem Spx.trans {t : TypeId} {lo hi : Nat} {a b c : World} (h : Spx t lo hi a b) (k : Spx t lo hi b c) : Spx t lo hi a c := by
  refine ⟨k.os.trans h.os, k.tape.trans h.tape, k.output.trans h.output, Nat.le_trans h.size k.size, fun i hi' ho => ?_, fun i hi' ho => ?_, fun i c' hc => ?_⟩
  · rw [k.out i (Nat.lt_of_lt_of_le hi' h.size) ho]
    exact h.out i hi' ho
  · have e := h.other i hi' ho
    rw [k.other i (Nat.lt_of_lt_of_le hi' h.size) (fun d hd => ho d (by rw [← e]; exact hd))]
    exact e
  · obtain ⟨d, h1, h2⟩ := h.like i c' hc
    obtain ⟨d', h3, h4⟩ := k.like i d h1
    exact ⟨d', h3, by omega⟩

theorem Spx.of_below {t : TypeId} {lo hi : Nat} {w w' : World} (h : Below w.heap.size w w') : Spx t lo hi w w' :=
  ⟨h.os, h.tape, h.output, h.size, fun k hk _ => h.block k hk, fun k hk _ => h.block k hk, fun k c hc => ⟨c, (h.block k (Array.getElem?_eq_some_iff.1 hc).1).trans hc, rfl⟩⟩

theorem Spx.of_spd {lo hi : Nat} {w w' : World} (h : Spd lo hi w w') : Spx 3 lo hi w w' := ⟨h.os, h.tape, h.output, by rw [h.size]; exact Nat.le_refl _, fun k _ ho => h.out k ho, fun k _ ho => h.other k ho, h.like⟩

theorem Spx.set {t : TypeId} {lo hi : Nat} {w w' : World} {g k : Nat} {v : Value} {c0 : Array Value} (h : Spx t lo hi w w') (h1 : lo ≤ g) (h2 : g < hi) (hg : w.heap[g]? = some (.cells c0 t (0, 0))) : Spx t lo hi w (w'.setCell ⟨g, k, none⟩ v) := by
  have ho : ∀ j, j ≠ g → (w'.setCell ⟨g, k, none⟩ v).heap[j]? = w'.heap[j]? := fun j hj => Go.Deep.blk_setCell_other _ _ _ _ hj
  refine ⟨h.os, h.tape, h.output, by simp [World.setCell]; exact h.size, fun j hl hj => ?_, fun j hl hj => ?_, fun j c hc => ?_⟩
  · rw [ho j (by omega)]; exact h.out j hl hj
  · have : j ≠ g := fun e => hj c0 (by rw [e]; exact hg)
    rw [ho j this]; exact h.other j hl hj
  · obtain ⟨c', h3, h4⟩ := h.like j c hc
    by_cases e : j = g
    · subst e
      exact ⟨c'.setIfInBounds k v, by simp [World.setCell, Array.getElem?_modify, h3], by simpa using h4⟩
    · exact ⟨c', by rw [ho j e]; exact h3, h4⟩

/-- A list of elements t of s cells that may be written over. -/
def Spv (t : TypeId) (s : Nat) (w : World) (lo hi : Nat) (v : Value) : Prop :=
  v = .slice none 0 0 ∨ ∃ g n cap cur, v = .slice (some ⟨g, 0, none⟩) n cap ∧ lo ≤ g ∧ g < hi ∧ w.heap[g]? = some (.cells cur t (0, 0)) ∧ n ≤ cap ∧ cap ≤ maxLen ∧ cur.size = cap * s

theorem Spv.spx {t t' : TypeId} {s : Nat} {w w' : World} {lo hi lo' hi' : Nat} {v : Value} (h : Spv t s w lo hi v) (k : Spx t' lo' hi' w w') : Spv t s w' lo hi v := by
  rcases h with h | ⟨g, n, cap, cur, h1, h2, h3, h4, h5, h6, h7⟩
  · exact Or.inl h
  · by_cases e : t = t'
    · subst e
      obtain ⟨c', h8, h9⟩ := k.like g cur h4
      exact Or.inr ⟨g, n, cap, c', h1, h2, h3, h8, h5, h6, by omega⟩
    · refine Or.inr ⟨g, n, cap, cur, h1, h2, h3, (k.other g (Array.getElem?_eq_some_iff.1 h4).1 (fun c hc => ?_)).trans h4, h5, h6, h7⟩
      rw [h4] at hc
      cases hc
      exact e rfl

theorem spoilI_any {w : World} {lo hi : Nat} {v : Value} {x : Int} (h : Spv 3 1 w lo hi v) : Calls Try.prog 38 #[v, .int .i64 x] w fun e w' => e = .returned (.tuple #[]) ∧ Spx 3 lo hi w w' := by
  refine (spoil_any (lo := lo) (hi := hi) ?_).mono fun e w' hh => ⟨hh.1, Spx.of_spd hh.2⟩
  rcases h with h | ⟨g, n, cap, cur, h1, h2, h3, h4, h5, h6, h7⟩
  · exact Or.inl h
  · exact Or.inr ⟨g, n, cap, cur, h1, h2, h3, h4, h5, h6, by omega⟩

set_option maxHeartbeats 1000000 in
theorem spoilE_any {w : World} {lo hi : Nat} {v : Value} (hhi : hi ≤ w.heap.size) (h : Spv 52 2 w lo hi v) : Calls Try.prog 39 #[v, .agg #[.int .i64 0, .int .i64 0]] w fun e w' => e = .returned (.tuple #[]) ∧ Spx 52 lo hi w w' := by
  obtain ⟨W, eW⟩ : ∃ u, u = w.alloc (.cells #[.int .i64 0, .int .i64 0] 52) := ⟨_, rfl⟩
  have HW : Hid (Below w.heap.size w W) := by subst eW; exact box_below _ _
  have HEW : Hid (w.alloc (.cells #[.int .i64 0, .int .i64 0] 52) = W) := eW.symm
  have HBx : Hid (∀ u, Spx 52 lo hi W u → u.cell? ⟨w.heap.size, 0, none⟩ = some (.int .i64 0) ∧ u.cell? ⟨w.heap.size, 1, none⟩ = some (.int .i64 0)) := fun u hu => by
    have hb : W.heap[w.heap.size]? = some (.cells #[.int .i64 0, .int .i64 0] 52 (0, 0)) := by subst eW; exact heap_alloc_new _ _
    have hb2 := (hu.out w.heap.size (Array.getElem?_eq_some_iff.1 hb).1 (Or.inr hhi)).trans hb
    exact ⟨cell_of_block hb2 rfl, cell_of_block hb2 rfl⟩
  have HV : Hid (Spv 52 2 W lo hi v) := h.spx (t' := 3) (lo' := 0) (hi' := 0) (Spx.of_below HW.out)
  clear eW h
  rcases HV.out with rfl | ⟨g, n, cap, cur, rfl, hlo, hhi2, hg, hle, hmax, hsz⟩
  · go_enter Try.func39, Try.ntmps39
    go_wp2
    rw [HEW.out]
    go_loop [11] (fun i => i = .int .i64 0) (fun _ => 0)
    case atStart => rfl
    case round =>
      obtain rfl := hrel
      go_wp2
      go_end0
      exact ⟨rfl, Spx.of_below HW.out⟩
  · have HG : Hid (W.heap[g]? = some (.cells cur 52 (0, 0)) ∧ cur.size = cap * 2) := ⟨hg, hsz⟩
    have hm : cap ≤ 9223372036854775807 := by unfold maxLen at hmax; omega
    clear hg hsz hmax HV
    go_enter Try.func39, Try.ntmps39
    go_wp2
    rw [HEW.out]
    go_loopw [11] (fun i wr => ∃ k : Nat, k ≤ cap ∧ i = .int .i64 k ∧ Hid (Spx 52 lo hi W wr)) (fun i _ => cap - (intOf i).toNat)
    case atStart => exact ⟨0, Nat.zero_le _, rfl, Spx.refl _ _ _ _⟩
    case round =>
      obtain ⟨k, hk, rfl, HS⟩ := hrel
      by_cases hlt : k < cap
      · have hzk : (k : Int) < cap := by omega
        obtain ⟨c', h8, h9⟩ := HS.out.like g cur HG.out.1
        obtain ⟨x, hcell⟩ : ∃ x, wr.cell? ⟨g, k * 2, none⟩ = some x := ⟨_, cell_of_block h8 (Array.getElem?_eq_getElem (by have := HG.out.2; omega))⟩
        obtain ⟨y, hcell2⟩ : ∃ y, wr.cell? ⟨g, k * 2 + 1, none⟩ = some y := ⟨_, cell_of_block h8 (Array.getElem?_eq_getElem (by have := HG.out.2; omega))⟩
        have hfz : wr.frozen? ⟨g, k * 2, none⟩ = false := by simp [World.frozen?, h8]
        have hfz2 : wr.frozen? ⟨g, k * 2 + 1, none⟩ = false := by simp [World.frozen?, h8]
        obtain ⟨c0, c1⟩ := HBx.out wr HS.out
        clear h8 h9
        go_wp2
        go_roundw
        case rel => exact ⟨k + 1, by omega, by go_num, (HS.out.set hlo hhi2 HG.out.1).set hlo hhi2 HG.out.1⟩
        case measure => simp [intOf]; omega
      · go_wp2
        go_end0
        exact ⟨rfl, (Spx.of_below HW.out).trans HS.out⟩

/-- What lies below lo or from hi on stays. -/
structure Otr (lo hi : Nat) (w w' : World) : Prop where
  os : w'.os = w.os
  tape : w'.tape = w.tape
  output : w'.output = w.output
  size : w.heap.size ≤ w'.heap.size
  out : ∀ k : Nat, k < w.heap.size → k < lo ∨ hi ≤ k → w'.heap[k]? = w.heap[k]?

theorem Spx.otr {t : TypeId} {lo hi : Nat} {w w' : World} (h : Spx t lo hi w w') : Otr lo hi w w' := ⟨h.os, h.tape, h.output, h.size, h.out⟩
theorem Otr.trans {lo hi : Nat} {a b c : World} (h : Otr lo hi a b) (k : Otr lo hi b c) : Otr lo hi a c :=
  ⟨k.os.trans h.os, k.tape.trans h.tape, k.output.trans h.output, Nat.le_trans h.size k.size, fun i hi' ho => (k.out i (Nat.lt_of_lt_of_le hi' h.size) ho).trans (h.out i hi' ho)⟩
theorem Otr.below {lo hi : Nat} {w w' : World} (h : Otr lo hi w w') {B : Nat} (hB : B ≤ lo) (hs : B ≤ w.heap.size) : Below B w w' :=
  ⟨h.os, h.tape, h.output, h.size, fun k hk => h.out k (by omega) (Or.inl (by omega))⟩

theorem owns_otr {lo hi : Nat} {w w' : World} (h : Otr lo hi w w') {base t s n : Nat} {v : Value} {xs : List Value} (ho : w.ownsRow base t s v n xs) (hb : hi ≤ base) : w'.ownsRow base t s v n xs := by
  refine ⟨ho.1, ?_⟩
  rcases ho.2 with h0 | ⟨g, cap, cur, h1, h2, h3, h4⟩
  · exact Or.inl h0
  · exact Or.inr ⟨g, cap, cur, h1, h2, (h.out g (Array.getElem?_eq_some_iff.1 h3).1 (Or.inr (by omega))).trans h3, h4⟩

theorem spc_otr {lo hi : Nat} {w w' : World} (h : Otr lo hi w w') {base F : Nat} {mv nv : Value} {marks : List (List Int)} {nexts : List (List (Int × Int))} (hs : Spc w base mv nv F marks nexts) (hb : hi ≤ base) : Spc w' base mv nv F marks nexts := by
  obtain ⟨⟨G, ⟨⟨Vs, h1, h2⟩, h3⟩, b, n, Us, h4, h5⟩, Ws, h6, h7⟩ := hs
  have e := owns_uniq h4 h1
  subst e
  have cp : ∀ v, v ∈ Us → Cpd base w' v := fun v hv => by
    obtain ⟨g, m, c, d, e1, e2, e3, e4⟩ := h5 v hv
    exact ⟨g, m, c, d, e1, e2, (h.out g (Array.getElem?_eq_some_iff.1 e3).1 (Or.inr (by omega))).trans e3, e4⟩
  refine ⟨⟨G, ⟨⟨Us, owns_otr h h1 hb, h2⟩, fun i hi' => ?_⟩, base, marks.length, Us, owns_otr h h1 hb, cp⟩, Ws, owns_otr h h6 hb, fun i hi' => ?_⟩
  · obtain ⟨c, hc⟩ := h2 i hi'
    obtain ⟨g, m, c', d, e1, e2, e3, e4⟩ := h5 _ (List.mem_of_getElem? hc)
    cases e1
    exact (h3 i hi').of_block (h.out _ (Array.getElem?_eq_some_iff.1 e3).1 (Or.inr (by omega)))
  · obtain ⟨v, h8, h9⟩ := h7 i hi'
    exact ⟨v, h8, owns_otr h h9 hb⟩

/-- The i-th marking of a space, as a list that may be written over. -/
theorem mark_row {w : World} {base F : Nat} {ma : Option Addr} {n mc : Nat} {marks : List (List Int)} (h : Mks w base (.slice ma n mc) F marks) {i : Nat} (hi : i < marks.length) :
    ∃ b o v, ma = some ⟨b, o, none⟩ ∧ w.cell? ⟨b, o + i, none⟩ = some v ∧ (∃ d, w.heap[b]? = some (.cells d 26 (0, 0))) ∧ Spv 3 1 w base w.heap.size v := by
  obtain ⟨G, ⟨⟨Vs, h1, h2⟩, h3⟩, b, n', Us, h4, h5⟩ := h
  have e := owns_uniq h4 h1
  subst e
  obtain ⟨c, hc⟩ := h2 i hi
  obtain ⟨g, m, c', d, e1, e2, e3, e4, e5, e6⟩ := h5 _ (List.mem_of_getElem? hc)
  rcases h1.2 with ⟨e, h0⟩ | ⟨g', cap, cur, e, _, hg', _⟩
  · omega
  · simp only [Value.slice.injEq] at e
    obtain ⟨rfl, rfl, rfl⟩ := e
    have := h1.cells (g := g') rfl i _ hc
    rw [add_none2] at this
    exact ⟨g', 0, _, rfl, this, ⟨cur, hg'⟩, Or.inr ⟨g, m, c', d, e1, e2, (Array.getElem?_eq_some_iff.1 e3).1, e3, e5, e6, by omega⟩⟩

theorem edge_row {w : World} {base : Nat} {xa : Option Addr} {n xc : Nat} {nexts : List (List (Int × Int))} (h : Nxs w base (.slice xa n xc) nexts) {i : Nat} (hi : i < nexts.length) :
    ∃ b o v, xa = some ⟨b, o, none⟩ ∧ w.cell? ⟨b, o + i, none⟩ = some v ∧ (∃ d, w.heap[b]? = some (.cells d 49 (0, 0))) ∧ Spv 52 2 w base w.heap.size v := by
  obtain ⟨Vs, h1, h2⟩ := h
  obtain ⟨v, hv, ho⟩ := h2 i hi
  have hs : Spv 52 2 w base w.heap.size v := by
    rcases ho.2 with ⟨rfl, _⟩ | ⟨g, cap, cur, rfl, e2, e3, e4, e5, e6, _⟩
    · exact Or.inl rfl
    · exact Or.inr ⟨g, _, cap, cur, rfl, e2, (Array.getElem?_eq_some_iff.1 e3).1, e3, e4, e5, e6⟩
  rcases h1.2 with ⟨e, h0⟩ | ⟨g', cap, cur, e, _, hg', _⟩
  · omega
  · simp only [Value.slice.injEq] at e
    obtain ⟨rfl, rfl, rfl⟩ := e
    have := h1.cells (g := g') rfl i _ hv
    rw [add_none2] at this
    exact ⟨g', 0, _, rfl, this, ⟨cur, hg'⟩, hs⟩

theorem Spv.mono {t : TypeId} {s : Nat} {w : World} {lo hi lo' hi' : Nat} {v : Value} (h : Spv t s w lo hi v) (h1 : lo' ≤ lo) (h2 : hi ≤ hi') : Spv t s w lo' hi' v := by
  rcases h with h | ⟨g, n, cap, cur, e1, e2, e3, e4⟩
  · exact Or.inl h
  · exact Or.inr ⟨g, n, cap, cur, e1, by omega, by omega, e4⟩

theorem spv_owns {w : World} {base n : Nat} {v : Value} {xs : List Value} (h : w.ownsRow base 3 1 v n xs) : Spv 3 1 w base w.heap.size v := by
  rcases h.2 with ⟨rfl, _⟩ | ⟨g, cap, cur, rfl, e2, e3, e4, e5, e6, _⟩
  · exact Or.inl rfl
  · exact Or.inr ⟨g, _, cap, cur, rfl, e2, (Array.getElem?_eq_some_iff.1 e3).1, e3, e4, e5, e6⟩

end Go.Proofs.Ytpgodjinbabniab
