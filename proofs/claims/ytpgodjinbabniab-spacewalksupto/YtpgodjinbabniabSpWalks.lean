/- Small functions of the law SpaceWalks, and what it says. -/
import Derived.Test.YtpgodjinbabniabSpLaw
namespace Go.Proofs.Ytpgodjinbabniab
open Go.RowKit Go.Maps

set_option maxHeartbeats 400000 in
theorem skFn {w : World} {b : Nat} {s t x : Int} {y : Bool} (h : w.cell? ⟨b, 0, none⟩ = some (.int .i64 x)) (hy : (s == x) = y) : Calls Try.prog 20 #[.agg #[.int .i64 s, .int .i64 t], .pointer (some ⟨b, 0, none⟩)] w fun e w' => e = .returned (.bool y) ∧ Below w.heap.size w w' := by
  have hlt : b < w.heap.size := World.block_lt_of_cell? _ _ h
  have h1 : (w.alloc (.cells #[.int .i64 s, .int .i64 t] 52)).cell? ⟨b, 0, none⟩ = some (.int .i64 x) := ((box_below _ _).cell (p := ⟨b, 0, none⟩) hlt).trans h
  cases y with
  | true =>
    go_enter Try.func20, Try.ntmps20
    go_wp2
    go_ret
    exact ⟨rfl, box_below _ _⟩
  | false =>
    go_enter Try.func20, Try.ntmps20
    go_wp2
    go_ret
    exact ⟨rfl, box_below _ _⟩

set_option maxHeartbeats 1000000 in
theorem skIdx {w : World} {b : Nat} {x : Int} (h : w.cell? ⟨b, 0, none⟩ = some (.int .i64 x)) {a : Option Addr} {n c : Nat} {C : List (Int × Int)} (hn : n = C.length) (hn0 : n ≤ 1000) (hr : Prs w a C) (hz : ∃ i, i < n ∧ (C.getD i (0, 0)).1 = x) :
    Calls Try.prog 19 #[.slice a n c, .func (Fn.func 20) #[] #[.pointer (some ⟨b, 0, none⟩)]] w fun e w' => (∃ y : Nat, y < n ∧ e = .returned (.int .i64 y) ∧ (C.getD y (0, 0)).1 = x) ∧ Below w.heap.size w w' := by
  obtain ⟨rb, ro, ha, hc⟩ := hr
  rw [← hn] at ha hc
  have HC : Hid (∀ i, i < n → w.cell? ⟨rb, ro + i * 2, none⟩ = some (.int .i64 (C.getD i (0, 0)).1) ∧ w.cell? ⟨rb, ro + i * 2 + 1, none⟩ = some (.int .i64 (C.getD i (0, 0)).2)) := hc
  have HZ : Hid (∃ i, i < n ∧ (C.getD i (0, 0)).1 = x) := hz
  have HB : Hid (w.cell? ⟨b, 0, none⟩ = some (.int .i64 x)) := h
  clear hc hz hn h
  go_enter Try.func19, Try.ntmps19
  go_wp2
  go_loopw [8] (fun i wr => ∃ k : Nat, k ≤ n ∧ i = .int .i64 k ∧ Hid (Below w.heap.size w wr) ∧ Hid (∀ i, i < k → (C.getD i (0, 0)).1 ≠ x)) (fun i _ => n - (intOf i).toNat)
  case atStart => exact ⟨0, Nat.zero_le _, rfl, hid (Below.refl _ _), hid (fun j hj => absurd hj (Nat.not_lt_zero _))⟩
  case round =>
    obtain ⟨k, hk, rfl, HR, HK⟩ := hrel
    by_cases hlt : k < n
    · obtain rfl := ha (by omega)
      obtain ⟨g1, g2⟩ := HC.out k hlt
      have hc1 := (HR.out.cell (p := ⟨rb, ro + k * 2, none⟩) (World.block_lt_of_cell? _ _ g1)).trans g1
      have hc2 := (HR.out.cell (p := ⟨rb, ro + k * 2 + 1, none⟩) (World.block_lt_of_cell? _ _ g2)).trans g2
      have hb := (HR.out.cell (p := ⟨b, 0, none⟩) (World.block_lt_of_cell? _ _ HB.out)).trans HB.out
      have hzk : (k : Int) < n := by omega
      clear g1 g2
      by_cases hq : (C.getD k (0, 0)).1 = x
      · have HQ : Hid ((C.getD k (0, 0)).1 = x) := hq
        generalize hs : (C.getD k (0, 0)).1 = s at hc1
        generalize (C.getD k (0, 0)).2 = t at hc2
        have C1 : Hid (Calls Try.prog 20 #[.agg #[.int .i64 s, .int .i64 t], .pointer (some ⟨b, 0, none⟩)] wr fun e w' => e = .returned (.bool true) ∧ Below wr.heap.size wr w') := skFn hb (beq_iff_eq.2 (hs.symm.trans hq))
        clear hq hb hs
        go_wp2_with fail
        refine C1.out.mono ?_
        rintro e w1 ⟨rfl, hb1⟩
        have HF : Hid (Below w.heap.size w w1) := HR.out.trans (hb1.mono HR.out.size)
        clear hb1 C1
        go_wp2
        go_ret
        exact ⟨⟨k, hlt, rfl, HQ.out⟩, HF.out⟩
      · have HQ : Hid ((C.getD k (0, 0)).1 ≠ x) := hq
        generalize hs : (C.getD k (0, 0)).1 = s at hc1
        generalize (C.getD k (0, 0)).2 = t at hc2
        have C1 : Hid (Calls Try.prog 20 #[.agg #[.int .i64 s, .int .i64 t], .pointer (some ⟨b, 0, none⟩)] wr fun e w' => e = .returned (.bool false) ∧ Below wr.heap.size wr w') := skFn hb (beq_eq_false_iff_ne.2 (hs ▸ hq))
        clear hq hb hs
        go_wp2_with fail
        refine C1.out.mono ?_
        rintro e w1 ⟨rfl, hb1⟩
        have HF : Hid (Below w.heap.size w w1) := HR.out.trans (hb1.mono HR.out.size)
        clear hb1 C1
        go_wp2
        go_roundw
        case rel => exact ⟨k + 1, by omega, by go_num, HF, hid (fun i hi => if e : i = k then by rw [e]; exact HQ.out else HK.out i (by omega))⟩
        case measure => simp [intOf]; omega
    · exfalso
      obtain ⟨i, h1, h2⟩ := HZ.out
      exact HK.out i (by omega) h2

/-- One step along the space. -/
theorem sk_step {K A B : Nat → Int} {F : Nat} {l : List St3} {X : List Int → Nat → Int} (hX : XOk K A B F l X) (hl : ∀ j, j < l.length → (l.getD j (0, 0, 0)).2.1 < F) {tk : Int} {q : Nat} {m0 : List Int} {T : Xp}
    (h : XInv tk q (nxl K A B F l) (cnl X l.length) m0 T []) (hn : T.nexts.length = T.marks.length) {k s : Nat} {m : Nat → Int} (hk : k < T.marks.length) (hm : T.marks.getD k [] = lst F m) (hs : s < l.length) (he : enb K A B F m (l.getD s (0, 0, 0))) :
    k < T.nexts.length ∧ (∃ i, i < (T.nexts.getD k []).length ∧ ((T.nexts.getD k []).getD i (0, 0)).1 = s) ∧
      ∀ i, i < (T.nexts.getD k []).length → ((T.nexts.getD k []).getD i (0, 0)).1 = s → ∃ k2 : Nat, ((T.nexts.getD k []).getD i (0, 0)).2 = k2 ∧ k2 < T.marks.length ∧ T.marks.getD k2 [] = lst F (frs K A B (l.getD s (0, 0, 0)) m) := by
  have hm' : T.marks[k]? = some (lst F m) := by
    rw [List.getElem?_eq_getElem hk, ← hm, List.getD_eq_getElem?_getD, List.getElem?_eq_getElem hk]; rfl
  obtain ⟨L, h1, h2, h3⟩ := xinv_edge h hn hm'
  have e : T.nexts.getD k [] = L := by rw [List.getD_eq_getElem?_getD, h1]; rfl
  rw [e]
  have hag : ∀ i, i < F → fnl (lst F m) i = m i := fun i hi => fnl_lst hi
  refine ⟨by omega, ?_, fun i hi hi1 => ?_⟩
  · have hmem : (s : Int) ∈ cnl X l.length (lst F m) := (mem_cnl hX).2 ⟨s, rfl, hs, (enb_congr hag (hl s hs)).2 he⟩
    rw [← h2] at hmem
    obtain ⟨p, hp, hp1⟩ := List.mem_map.1 hmem
    obtain ⟨i, hi, hip⟩ := List.getElem_of_mem hp
    refine ⟨i, hi, ?_⟩
    rw [List.getD_eq_getElem?_getD, List.getElem?_eq_getElem hi, hip]
    exact hp1
  · have hmem : L.getD i (0, 0) ∈ L := by
      rw [List.getD_eq_getElem?_getD, List.getElem?_eq_getElem hi]
      exact List.getElem_mem hi
    obtain ⟨k2, e1, e2⟩ := h3 _ hmem
    refine ⟨k2, e1, (List.getElem?_eq_some_iff.1 e2).1, ?_⟩
    rw [List.getD_eq_getElem?_getD, e2, hi1]
    show nxl K A B F l (s : Int) (lst F m) = _
    unfold nxl
    rw [Int.toNat_natCast]
    exact lst_congr (fun j hj => frs_congr (hag j hj))

end Go.Proofs.Ytpgodjinbabniab
