/- Small functions, by their contracts. What SoundEnds calls. -/
import Derived.Test.YtjenkhphngiphaaSndPlay0J
namespace Go.Proofs.Ytjenkhphngiphaa
open Go.RowKit Go.Maps

/-- One step along the space. -/
theorem sk_step {K A B : Nat → Int} {F : Nat} {l : List St3} {X : List Int → Nat → Int} (hX : XOk K A B F l X) (hl : ∀ j, j < l.length → (l.getD j (0, 0, 0)).2.1 < F) {tk : Int} {q : Nat} {m0 : List Int} {T : Xp}
    (h : XInv tk q (nxl K A B F l) (cnl X l.length) m0 T []) (hn : T.nexts.length = T.marks.length) {k s : Nat} {m : Nat → Int} (hk : k < T.marks.length) (hm : T.marks.getD k [] = lst F m) (hs : s < l.length) (he : enb K A B F m (l.getD s (0, 0, 0))) :
    k < T.nexts.length ∧ (∃ i, i < (T.nexts.getD k []).length ∧ ((T.nexts.getD k []).getD i (0, 0)).1 = s) ∧
      ∀ i, i < (T.nexts.getD k []).length → ((T.nexts.getD k []).getD i (0, 0)).1 = s → ∃ k2 : Nat, ((T.nexts.getD k []).getD i (0, 0)).2 = k2 ∧ k2 < T.marks.length ∧ T.marks.getD k2 [] = lst F (frs K A B (l.getD s (0, 0, 0)) m) := by
  have hm' : T.marks[k]? = some (lst F m) := by
    rw [List.getElem?_eq_getElem hk, ← hm, List.getD_eq_getElem?_getD, List.getElem?_eq_getElem hk]; rfl
  obtain ⟨L, h1, h2, h3⟩ := xinv_edge h hn hm'
  have e : T.nexts.getD k [] = L := by rw [List.getD_eq_getElem?_getD, h1]; rfl
  rw [e]
  have hag : ∀ i, i < F → fnl (lst F m) i = m i := fun i hi => fnl_lst hi
  refine ⟨by omega, ?_, fun i hi hi1 => ?_⟩
  · have hmem : (s : Int) ∈ cnl X l.length (lst F m) := (mem_cnl hX).2 ⟨s, rfl, hs, (enb_congr hag (hl s hs)).2 he⟩
    rw [← h2] at hmem
    obtain ⟨p, hp, hp1⟩ := List.mem_map.1 hmem
    obtain ⟨i, hi, hip⟩ := List.getElem_of_mem hp
    refine ⟨i, hi, ?_⟩
    rw [List.getD_eq_getElem?_getD, List.getElem?_eq_getElem hi, hip]
    exact hp1
  · have hmem : L.getD i (0, 0) ∈ L := by
      rw [List.getD_eq_getElem?_getD, List.getElem?_eq_getElem hi]
      exact List.getElem_mem hi
    obtain ⟨k2, e1, e2⟩ := h3 _ hmem
    refine ⟨k2, e1, (List.getElem?_eq_some_iff.1 e2).1, ?_⟩
    rw [List.getD_eq_getElem?_getD, e2, hi1]
    show nxl K A B F l (s : Int) (lst F m) = _
    unfold nxl
    rw [Int.toNat_natCast]
    exact lst_congr (fun j hj => frs_congr (hag j hj))

end Go.Proofs.Ytjenkhphngiphaa

namespace Go.Proofs.Ytjenkhphngiphaa
open Go.RowKit Go.Maps

/-- Whatever is done, one stays in the space. -/
theorem walk_in {K A B : Nat → Int} {F : Nat} {l : List St3} {X : List Int → Nat → Int} (hX : XOk K A B F l X) (hl : ∀ j, j < l.length → (l.getD j (0, 0, 0)).2.1 < F) {tk : Int} {q : Nat} {T : Xp}
    (h : XInv tk q (nxl K A B F l) (cnl X l.length) (lst F (bgn K A)) T []) (hn : T.nexts.length = T.marks.length) {n : Nat} {Ms : Nat → Nat → Int} {S : Nat → Nat} (hp : Pth K A B F l n Ms S) : ∀ k, k ≤ n → ∃ a, a < T.marks.length ∧ T.marks.getD a [] = lst F (Ms k)
  | 0, _ => ⟨0, (List.getElem?_eq_some_iff.1 h.first).1, by rw [List.getD_eq_getElem?_getD, h.first, hp.zero]; rfl⟩
  | k + 1, hk => by
    obtain ⟨a, h1, h2⟩ := walk_in hX hl h hn hp k (by omega)
    obtain ⟨s1, s2, s3⟩ := hp.step k (by omega)
    obtain ⟨_, ⟨i, hi, e⟩, g⟩ := sk_step hX hl h hn h1 h2 s1 s2
    obtain ⟨k2, _, g2, g3⟩ := g i hi e
    exact ⟨k2, g2, by rw [g3, s3]⟩

theorem walk_same {N F : Nat} {M : Nat → ByteArray} {K A B : Nat → Int} {tk st : Int} {X : List Int → Nat → Int} (he : ChkIs N F M K A B 0) (hX : XOk K A B F (stAll K A B F N) X) {E : Int} (h : xE E tk st (xall tk st K A B F (stAll K A B F N) X) = 0) {n : Nat} {Ms : Nat → Nat → Int} {S : Nat → Nat} (hp : Pth K A B F (stAll K A B F N) n Ms S) :
    ∃ a, a < (xM E tk st (xall tk st K A B F (stAll K A B F N) X)).length ∧ same F F (mY (xM E tk st (xall tk st K A B F (stAll K A B F N) X)) a) (Ms n) = true := by
  obtain ⟨_, hb, T, h3, h4, h5, h6, h7⟩ := x_ok h
  rw [h4]
  obtain ⟨a, h1, h2⟩ := walk_in hX (steps_lt he) h6 h7 hp n (Nat.le_refl _)
  exact ⟨a, h1, same_yes rfl (fun j hj => by unfold mY; rw [h2, fnl_lst hj])⟩

theorem sm_zero {Y : Nat → Int} : ∀ {n}, zB n Y = true → sm Y n = 0
  | 0, _ => rfl
  | n + 1, h => by
    have h1 := zB_iff.1 h
    show sm Y n + Y n = 0
    rw [sm_zero (n := n) (zB_iff.2 (fun i hi => h1 i (by omega))), h1 n (by omega)]
    rfl

set_option maxHeartbeats 400000 in
theorem lastFn_any {w : World} {b : Nat} {a ga : Option Addr} {F c n gc : Nat} {Y : Nat → Int} {Ms : Nat → Nat → Int} (hF : F ≤ 1000) (hn : n ≤ 1048576) (h : w.cell? ⟨b, 0, none⟩ = some (.slice ga (n + 1) gc)) (h1 : Row w a F Y) (h2 : Gr w ga (n + 1) (fun _ => F) Ms) :
    Calls Try.prog 18 #[.slice a F c, .pointer (some ⟨b, 0, none⟩)] w fun e w' => e = .returned (.bool (same F F Y (Ms n))) ∧ ∃ q, w' = w.drewN q := by
  obtain ⟨gb, go, hga, hgc⟩ := h2
  obtain rfl := hga (by omega)
  obtain ⟨ra, rc, i0, hrow⟩ := hgc n (by omega)
  have C1 : Hid (Calls Try.prog 13 #[.slice a F c, .slice ra F rc] w fun e w' => e = .returned (.bool (same F F Y (Ms n))) ∧ ∃ q, w' = w.drewN q) := equal_any a ra F c F rc _ _ w (by omega) h1 hrow
  have hnz : (n : Int) < (n : Int) + 1 := by omega
  clear h1 hga hgc hrow
  go_enter Try.func18, Try.ntmps18
  go_wp2_with fail
  refine C1.out.mono ?_
  rintro e w1 ⟨rfl, q, rfl⟩
  go_wp2
  go_ret
  exact ⟨rfl, q, rfl⟩

set_option maxHeartbeats 1000000 in
theorem lastIdx_any {w : World} {b : Nat} {ma ga : Option Addr} {F G mc n gc : Nat} {Y Ms : Nat → Nat → Int} (hF : F ≤ 1000) (hG : G ≤ 1000) (hn : n ≤ 1048576) (h : w.cell? ⟨b, 0, none⟩ = some (.slice ga (n + 1) gc)) (h1 : Gr w ma G (fun _ => F) Y) (h2 : Gr w ga (n + 1) (fun _ => F) Ms) :
    Calls Try.prog 17 #[.slice ma G mc, .func (Fn.func 18) #[] #[.pointer (some ⟨b, 0, none⟩)]] w fun e w' => (∃ r : Int, e = .returned (.int .i64 r) ∧ FstIs (fun i => same F F (Y i) (Ms n) = true) G r) ∧ ∃ q, w' = w.drewN q := by
  obtain ⟨gb, go, ha, hc⟩ := h1
  have HC : Hid (∀ r, r < G → ∃ a c, w.cell? ⟨gb, go + r, none⟩ = some (.slice a F c) ∧ Row w a F (Y r)) := hc
  have HG2 : Hid (Gr w ga (n + 1) (fun _ => F) Ms) := h2
  have HB : Hid (w.cell? ⟨b, 0, none⟩ = some (.slice ga (n + 1) gc)) := h
  clear hc h2 h
  go_enter Try.func17, Try.ntmps17
  go_wp2
  go_loopw [8] (fun i wr => ∃ k : Nat, k ≤ G ∧ i = .int .i64 k ∧ Hid (∀ j, j < k → ¬ same F F (Y j) (Ms n) = true) ∧ ∃ q, wr = w.drewN q) (fun i _ => G - (intOf i).toNat)
  case atStart => exact ⟨0, Nat.zero_le _, rfl, hid (fun j hj => by omega), 0, rfl⟩
  case round =>
    obtain ⟨k, hk, rfl, HJ, q, rfl⟩ := hrel
    by_cases hlt : k < G
    · obtain rfl := ha (by omega)
      obtain ⟨ra, rc, hck, hrow⟩ := HC.out k hlt
      have hzk : (k : Int) < G := by omega
      have hbq : Below w.heap.size w (w.drewN q) := below_drewN (Below.refl _ _) q
      have C1 : Hid (Calls Try.prog 18 #[.slice ra F rc, .pointer (some ⟨b, 0, none⟩)] (w.drewN q) fun e w' => e = .returned (.bool (same F F (Y k) (Ms n))) ∧ ∃ q2, w' = (w.drewN q).drewN q2) := lastFn_any hF hn HB.out (hrow.below hbq) (HG2.out.below hbq)
      clear hrow hbq
      cases hz : same F F (Y k) (Ms n)
      · have HZ : Hid (same F F (Y k) (Ms n) = false) := hz
        rw [hz] at C1
        clear hz
        go_wp2_with fail
        refine C1.out.mono ?_
        rintro e w1 ⟨rfl, q2, rfl⟩
        go_wp2
        go_roundw
        case rel =>
          refine ⟨k + 1, by omega, by go_num, hid (fun j hj => ?_), _, rfl⟩
          by_cases e : j = k
          · subst e
            rw [HZ.out]
            decide
          · exact HJ.out j (by omega)
        case measure => simp [intOf]; omega
      · have HZ : Hid (same F F (Y k) (Ms n) = true) := hz
        rw [hz] at C1
        clear hz
        go_wp2_with fail
        refine C1.out.mono ?_
        rintro e w1 ⟨rfl, q2, rfl⟩
        go_wp2
        go_ret
        exact ⟨⟨k, rfl, .hit hlt HZ.out HJ.out⟩, _, rfl⟩
    · obtain rfl : k = G := by omega
      go_wp2
      go_ret
      exact ⟨⟨-1, rfl, .no HJ.out⟩, q, rfl⟩

end Go.Proofs.Ytjenkhphngiphaa
