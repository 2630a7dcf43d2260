
import Derived.Deep.Cut
import Derived.Deep.OwnRows
import Derived.Maps.AppendAt
import Derived.WalkKit
import Derived.WalkSpells
import Derived.WalkLawsBesides
import Derived.Deep.QuietTactic
import Derived.BigQuiet
import Derived.Below
import Derived.Deep.Heap
import Derived.RegionTactic
import Derived.Deep.Quiet
import Derived.Test.YthpbgfodejoecaaBfsJ
import Derived.Test.YthpbgfodejoecaaDistJ
import Derived.Test.YthpbgfodejoecaaDist2J
import Derived.Test.YthpbgfodejoecaaLeafJ
import Derived.Test.YthpbgfodejoecaaProc
import Derived.Test.YthpbgfodejoecaaProc2
import Derived.Test.YthpbgfodejoecaaSpFaceJ
import Derived.Test.YthpbgfodejoecaaWScSearch
import Derived.Test.YthpbgfodejoecaaWBaseJ
/- closePart and leave, by their contracts. -/
namespace Go.Proofs.Ythpbgfodejoecaa
open Go.RowKit

theorem own_form {w : World} {base : Nat} {v : Value} {l : List Nat} (h : w.ownsRow base 3 1 v l.length (vals (ints l))) (h0 : 0 < l.length) : ∃ g cap, v = .slice (some ⟨g, 0, none⟩) l.length cap ∧ l.length ≤ cap := by
  rcases h.2 with ⟨_, e⟩ | ⟨g, cap, cur, rfl, _, _, hle, _⟩
  · omega
  · exact ⟨g, cap, rfl, hle⟩

theorem own_cell {w : World} {base : Nat} {l : List Nat} {g cap n : Nat} (h : w.ownsRow base 3 1 (.slice (some ⟨g, 0, none⟩) n cap) l.length (vals (ints l))) {i : Nat} (hi : i < l.length) : w.cell? ⟨g, i, none⟩ = some (.int .i64 ((l.getD i 0 : Nat) : Int)) := by
  have := h.cells (g := g) rfl i (.int .i64 ((l.getD i 0 : Nat) : Int)) (by simp [vals, ints, hi])
  have hadd : (⟨g, 0, none⟩ : Addr).add i = ⟨g, i, none⟩ := by unfold Addr.add; split <;> simp_all
  rwa [hadd] at this

theorem own_take {w : World} {base : Nat} {A B : List Nat} {g cap n : Nat} (h : w.ownsRow base 3 1 (.slice (some ⟨g, 0, none⟩) n cap) (A ++ B).length (vals (ints (A ++ B)))) : w.ownsRow base 3 1 (.slice (some ⟨g, 0, none⟩) A.length cap) A.length (vals (ints A)) := by
  refine ⟨by simp [vals, ints], Or.inr ?_⟩
  rcases h.2 with ⟨e, _⟩ | ⟨g', cap', cur, e, hb, hg, hle, hm, hs, ht⟩
  · cases e
  · simp only [Value.slice.injEq, Option.some.injEq, Addr.mk.injEq] at e
    obtain ⟨⟨rfl, _⟩, rfl, rfl⟩ := e
    refine ⟨g, cap, cur, rfl, hb, hg, ?_, hm, hs, ?_⟩
    · have : A.length ≤ (A ++ B).length := by simp
      omega
    · have : vals (ints A) = (vals (ints (A ++ B))).take A.length := by simp [vals, ints]
      rw [this, ← ht, List.take_take]
      congr 1
      simp

theorem Sr.congrL {w wr : World} {y : Lay} {ga : Option Addr} {G gc : Nat} {s s' : ScSt} {pv ov : Value} (h : Sr w wr y ga G gc s pv ov) (hm : s'.met = s.met) (hl : s'.low = s.low) (hn : s'.nxt = s.nxt) (hp : s'.path = s.path) (ho : s'.opn = s.opn) (hc : s'.cnt = s.cnt) (ht : ∀ x, x < G → s.lst x = s'.lst x) : Sr w wr y ga G gc s' pv ov := by
  refine ⟨h.ok, h.below, by rw [hc]; exact h.cells, by rw [hm]; exact h.met, by rw [hl]; exact h.low, by rw [hn]; exact h.nxt, h.lst.congr (fun x hx => by rw [ht x hx]), by rw [hp]; exact h.pth, by rw [ho]; exact h.opn, h.apart, h.size⟩

/-- The part's own number is laid at its first j nodes. -/
def lstTo (s : ScSt) (S : List Nat) (m j x : Nat) : Int := if x ∈ S.take j then (m : Int) else s.lst x

theorem lstTo_next {s : ScSt} {S : List Nat} {m j : Nat} (hj : j < S.length) (x : Nat) : upd (lstTo s S m j) (S.getD j 0) m x = lstTo s S m (j + 1) x := by
  have e : S.take (j + 1) = S.take j ++ [S.getD j 0] := by
    rw [List.take_succ_eq_append_getElem hj, List.getD_eq_getElem?_getD, List.getElem?_eq_getElem hj]; rfl
  unfold lstTo
  rw [e]
  by_cases h : x = S.getD j 0
  · rw [h, upd_at, if_pos (by simp)]
  · rw [upd_ne _ _ _ _ h]
    by_cases h2 : x ∈ S.take j
    · rw [if_pos h2, if_pos (List.mem_append.2 (Or.inl h2))]
    · rw [if_neg h2, if_neg (fun hh => by
        rcases List.mem_append.1 hh with h3 | h3
        · exact h2 h3
        · exact h (by simpa using h3))]

theorem getD_app_right {A S : List Nat} (i : Nat) : (A ++ S).getD (A.length + i) 0 = S.getD i 0 := by
  rw [List.getD_eq_getElem?_getD, List.getElem?_append_right (by omega), Nat.add_sub_cancel_left, ← List.getD_eq_getElem?_getD]

theorem getD_memN {S : List Nat} {i : Nat} (h : i < S.length) : S.getD i 0 ∈ S := by
  rw [List.getD_eq_getElem?_getD, List.getElem?_eq_getElem h]
  exact List.getElem_mem _

/-- The part S is shut: its least node stands at each of its nodes; A is open still. -/
def PartShut (w w' : World) (y : Lay) (ga : Option Addr) (G gc : Nat) (s : ScSt) (pv : Value) (A S : List Nat) : Prop :=
  ∃ m ov', m ∈ S ∧ (∀ z ∈ S, m ≤ z) ∧ Sr w w' y ga G gc { s with opn := A, lst := fun x => if x ∈ S then (m : Int) else s.lst x } pv ov'

set_option maxHeartbeats 1000000 in
theorem closePart_any (w wr0 : World) (y : Lay) (ga : Option Addr) (G gc : Nat) (s : ScSt) (pv ov0 : Value) (n : Nat) (A B : List Nat) (ho : s.opn = A ++ (n :: B)) (hin : ∀ a ∈ s.opn, a < G) (hlen : s.opn.length ≤ 20000) (hnB : n ∉ B) (hS : Sr w wr0 y ga G gc s pv ov0) :
    Calls Try.prog 119 #[.pointer (some ⟨y.sb, 0, none⟩), .int .i64 n] wr0 fun e w' => e = .returned (.tuple #[]) ∧ PartShut w w' y ga G gc s pv A (n :: B) := by
  have hl : s.opn.length = A.length + (n :: B).length := by rw [ho]; simp
  obtain ⟨g, cap, rfl, hcap⟩ := own_form hS.opn (by rw [hl]; simp; omega)
  have hAlt : A.length < s.opn.length := by rw [hl]; simp
  have HS : Hid (Sr w wr0 y ga G gc s pv (.slice (some ⟨g, 0, none⟩) s.opn.length cap)) := hS
  have f6 : wr0.cell? ⟨y.sb, 6, none⟩ = some (.slice (some ⟨g, 0, none⟩) s.opn.length cap) := hS.cells.cell (i := 6) (by omega)
  have HC : Hid (∀ i, i < s.opn.length → wr0.cell? ⟨g, i, none⟩ = some (.int .i64 ((s.opn.getD i 0 : Nat) : Int))) := fun i hi => own_cell hS.opn hi
  have HO : Hid (s.opn = A ++ (n :: B)) := ho
  have HIN : Hid (∀ a ∈ s.opn, a < G) := hin
  have HNB : Hid (n ∉ B) := hnB
  clear hS ho hin hnB
  generalize hll : s.opn.length = l at *
  have HLL : Hid (s.opn.length = l) := hll
  clear hll
  generalize haa : A.length = k0 at *
  have HAA : Hid (A.length = k0) := haa
  clear haa
  generalize hbb : (n :: B).length = lb at *
  have HBB : Hid ((n :: B).length = lb) := hbb
  clear hbb
  have HL2 : Hid (l = k0 + lb) := hl
  have hl1 : l ≤ k0 + lb := by omega
  have hl2 : k0 + lb ≤ l := by omega
  clear hl
  have HG : Hid (∀ i, i < lb → s.opn.getD (k0 + i) 0 = (n :: B).getD i 0) := fun i _ => by rw [HO.out, ← HAA.out]; exact getD_app_right i
  go_enter Try.func119, Try.ntmps119
  go_wp2
  go_loop [4] (fun i => ∃ k : Nat, k0 ≤ k ∧ k < l ∧ i = .int .i64 k) (fun i => (intOf i).toNat)
  case atStart => exact ⟨l - 1, by omega, by omega, by go_num⟩
  case round =>
    obtain ⟨k, hk0, hkl, rfl⟩ := hrel
    have hkz : (k : Int) < l := by omega
    have hck := HC.out k hkl
    by_cases e : k = k0
    · subst e
      have hg := HG.out 0 (by omega)
      rw [Nat.add_zero] at hg
      rw [hg] at hck
      have hck' : wr0.cell? ⟨g, k, none⟩ = some (.int .i64 n) := hck
      have hb : ((n : Int) != n) = false := by simp
      clear hck hg
      go_wp2
      go_loop [5, 35] (fun sl i => ∃ (j m : Nat), j ≤ lb ∧ i = .int .i64 j ∧ sl = .int .i64 m ∧ Hid (m ∈ n :: B ∧ ∀ i, i < j → m ≤ (n :: B).getD i 0)) (fun _ i => lb - (intOf i).toNat)
      case atStart => exact ⟨0, n, Nat.zero_le _, rfl, rfl, hid ⟨by simp, fun i hi => by omega⟩⟩
      case round =>
        obtain ⟨j, m, hj, rfl, rfl, HM⟩ := hrel
        have hlk : (l : Int) - k = lb := by omega
        by_cases hjl : j < lb
        · have hcj := HC.out (k + j) (by omega)
          rw [HG.out j hjl] at hcj
          obtain ⟨t, ht⟩ : ∃ t, (n :: B).getD j 0 = t := ⟨_, rfl⟩
          have HT : Hid ((n :: B).getD j 0 = t) := ht
          have HTM : Hid (t ∈ n :: B) := hid (by rw [← ht]; exact getD_memN (by rw [HBB.out]; exact hjl))
          rw [ht] at hcj
          clear ht
          have hjz : (j : Int) < (l : Int) - k := by omega
          by_cases htm : t < m
          · have htz : (t : Int) < m := by omega
            go_wp2
            go_round
            case rel => exact ⟨j + 1, t, by omega, by go_num, by simp, hid ⟨HTM.out, snoc_all (fun i hi => by have := HM.out.2 i hi; omega) (by rw [HT.out]; omega)⟩⟩
            case measure => simp [intOf]; omega
          · have htz : ¬ (t : Int) < m := by omega
            go_wp2
            go_round
            case rel => exact ⟨j + 1, m, by omega, by go_num, by simp, hid ⟨HM.out.1, snoc_all HM.out.2 (by rw [HT.out]; omega)⟩⟩
            case measure => simp [intOf]; omega
        · have HMM : Hid (m ∈ n :: B ∧ ∀ z ∈ n :: B, m ≤ z) := by
            refine ⟨HM.out.1, fun z hz => ?_⟩
            obtain ⟨i, hi, ez⟩ := List.getElem_of_mem hz
            have := HM.out.2 i (by have := HBB.out; omega)
            rw [List.getD_eq_getElem?_getD, List.getElem?_eq_getElem hi] at this
            rw [← ez]
            exact this
          have hjz : ¬ (j : Int) < (l : Int) - k := by omega
          clear HM
          go_wp2
          go_loopw [50] (fun i wr => ∃ j : Nat, j ≤ lb ∧ i = .int .i64 j ∧ Hid (Sr w wr y ga G gc { s with lst := lstTo s (n :: B) m j } pv (.slice (some ⟨g, 0, none⟩) l cap))) (fun i _ => lb - (intOf i).toNat)
          case atStart => exact ⟨0, Nat.zero_le _, rfl, hid (HS.out.congrL rfl rfl rfl rfl rfl rfl (fun x _ => by simp [lstTo]))⟩
          case round =>
            obtain ⟨j2, hj2, rfl, HR⟩ := hrel
            by_cases hjl2 : j2 < lb
            · obtain ⟨t, ht⟩ : ∃ t, (n :: B).getD j2 0 = t := ⟨_, rfl⟩
              have HT : Hid ((n :: B).getD j2 0 = t) := ht
              have htG : t < G := by
                refine HIN.out t ?_
                rw [HO.out, ← ht]
                exact List.mem_append.2 (Or.inr (getD_memN (by rw [HBB.out]; exact hjl2)))
              have htz : (t : Int) < G := by omega
              have hro := HR.out.opn
              have hcj : wr.cell? ⟨g, k + j2, none⟩ = some (.int .i64 t) := by
                rw [own_cell hro (show k + j2 < s.opn.length by rw [HLL.out]; omega)]
                show some (Value.int .i64 ((s.opn.getD (k + j2) 0 : Nat) : Int)) = _
                rw [HG.out j2 hjl2, ht]
              have f7 : wr.cell? ⟨y.sb, 7, none⟩ = some (.slice (some ⟨y.bt, 0, none⟩) G G) := HR.out.cells.cell (i := 7) (by omega)
              have hlt := HR.out.lst.cell htG
              have hlz := HR.out.lst.frozen t
              have hjz2 : (j2 : Int) < (l : Int) - k := by omega
              clear ht hro
              go_wp2
              go_roundw
              case rel =>
                refine ⟨j2 + 1, by omega, by go_num, hid ((HR.out.setLst t m).congrL rfl rfl rfl rfl rfl rfl (fun x _ => ?_))⟩
                show upd (lstTo s (n :: B) m j2) t m x = lstTo s (n :: B) m (j2 + 1) x
                rw [← lstTo_next (by rw [HBB.out]; exact hjl2), HT.out]
              case measure => simp [intOf]; omega
            · have f6' : wr.cell? ⟨y.sb, 6, none⟩ = some (.slice (some ⟨g, 0, none⟩) l cap) := HR.out.cells.cell (i := 6) (by omega)
              have z6 := HR.out.cells.frozen 6
              have hjz2 : ¬ (j2 : Int) < (l : Int) - k := by omega
              have hown : wr.ownsRow y.B 3 1 (.slice (some ⟨g, 0, none⟩) k cap) A.length (vals (ints A)) := by
                have h1 := HR.out.opn
                have h2 : wr.ownsRow y.B 3 1 (.slice (some ⟨g, 0, none⟩) l cap) (A ++ (n :: B)).length (vals (ints (A ++ (n :: B)))) := by rw [← HO.out]; exact h1
                have h3 := own_take h2
                rwa [show (Value.slice (some ⟨g, 0, none⟩) A.length cap) = Value.slice (some ⟨g, 0, none⟩) k cap from by rw [HAA.out]] at h3
              have HF : Hid (Sr w (wr.setCell ⟨y.sb, 6, none⟩ (.slice (some ⟨g, 0, none⟩) k cap)) y ga G gc { s with lst := lstTo s (n :: B) m j2, opn := A } pv (.slice (some ⟨g, 0, none⟩) k cap)) :=
                (HR.out.setOpn (O := A) ⟨rfl, rfl, rfl, Nat.le_refl _, fun _ _ _ => rfl⟩ hown (Or.inl rfl)).2.2
              clear hown
              go_wp2
              go_end0
              refine ⟨rfl, m, _, HMM.out.1, HMM.out.2, HF.out.congrL rfl rfl rfl rfl rfl rfl (fun x _ => ?_)⟩
              show lstTo s (n :: B) m j2 x = if x ∈ n :: B then (m : Int) else s.lst x
              unfold lstTo
              rw [List.take_of_length_le (by have := HBB.out; omega)]
    · have hne : s.opn.getD k 0 ≠ n := by
        have hg := HG.out (k - k0) (by omega)
        rw [show k0 + (k - k0) = k from by omega] at hg
        rw [hg]
        obtain ⟨i, hi⟩ : ∃ i, k - k0 = i + 1 := ⟨k - k0 - 1, by omega⟩
        rw [hi]
        intro e2
        refine HNB.out ?_
        rw [← e2]
        exact getD_memN (by have := HBB.out; simp at this; omega)
      have hb : (((s.opn.getD k 0 : Nat) : Int) != n) = true := by rw [bne_iff_ne]; omega
      generalize s.opn.getD k 0 = t at *
      clear hne
      go_wp2
      go_round
      case rel => exact ⟨k - 1, by omega, by omega, by go_num⟩
      case measure => simp [intOf]; omega

/-- The path loses its last one. -/
theorem Sr.popPath {w wr : World} {y : Lay} {ga : Option Addr} {G gc : Nat} {s : ScSt} {ov : Value} {Q : List Nat} {n g cap q : Nat} (h : Sr w wr y ga G gc s (.slice (some ⟨g, 0, none⟩) (q + 1) cap) ov) (hp : s.path = Q ++ [n]) (hq : Q.length = q) : Sr w (wr.setCell ⟨y.sb, 5, none⟩ (.slice (some ⟨g, 0, none⟩) q cap)) y ga G gc { s with path := Q } (.slice (some ⟨g, 0, none⟩) q cap) ov := by
  subst hq
  have h1 := h.pth
  rw [hp] at h1
  exact (h.setPath (P := Q) ⟨rfl, rfl, rfl, Nat.le_refl _, fun _ _ _ => rfl⟩ (own_take h1) (Or.inl rfl)).2.2

set_option maxHeartbeats 1000000 in
theorem leave_close (w wr0 : World) (y : Lay) (ga : Option Addr) (G gc : Nat) (s : ScSt) (pv0 ov : Value) (n : Nat) (Q A B : List Nat) (hn : n < G) (hp : s.path = Q ++ [n]) (hpl : s.path.length ≤ 20000) (ho : s.opn = A ++ (n :: B)) (hin : ∀ a ∈ s.opn, a < G) (hlen : s.opn.length ≤ 20000) (hnB : n ∉ B) (he : s.low n = s.met n)
    (hS : Sr w wr0 y ga G gc s pv0 ov) :
    Calls Try.prog 118 #[.pointer (some ⟨y.sb, 0, none⟩), .int .i64 n] wr0 fun e w' => e = .returned (.tuple #[]) ∧ ∃ pv', PartShut w w' y ga G gc { s with path := Q } pv' A (n :: B) := by
  have hq : s.path.length = Q.length + 1 := by rw [hp]; simp
  obtain ⟨g, cap, rfl, hcap⟩ := own_form hS.pth (by rw [hq]; omega)
  rw [hq] at hS hcap hpl
  have HP : Hid (s.path = Q ++ [n]) := hp
  have HX : Hid (s.opn = A ++ (n :: B) ∧ (∀ a ∈ s.opn, a < G) ∧ s.opn.length ≤ 20000 ∧ n ∉ B) := ⟨ho, hin, hlen, hnB⟩
  have HE : Hid (s.low n = s.met n) := he
  clear hp ho hin hlen hnB he hq
  generalize hql : Q.length = q at *
  have HQ : Hid (Q.length = q) := hql
  clear hql
  have hnz : (n : Int) < G := by omega
  have f5 : wr0.cell? ⟨y.sb, 5, none⟩ = some (.slice (some ⟨g, 0, none⟩) (q + 1) cap) := hS.cells.cell (i := 5) (by omega)
  have z5 := hS.cells.frozen 5
  have HS : Hid (Sr w wr0 y ga G gc s (.slice (some ⟨g, 0, none⟩) (q + 1) cap) ov) := hS
  clear hS
  go_enter Try.func118, Try.ntmps118
  go_wp2_with fail
  refine wp_region_last 14 _ (by kernel_rfl) (by kernel_rfl) rfl rfl ?_
  simp only [List.take]
  repeat (go_big_quiet_step (fail))
  refine wpQuiet_nil ?_
  intro nq
  go_upto_region 1 with fail
  have S1 := (HS.out.drewN nq).popPath HP.out HQ.out
  clear f5 z5 HS
  generalize (wr0.drewN nq).setCell ⟨y.sb, 5, none⟩ (.slice (some ⟨g, 0, none⟩) q cap) = w1 at *
  have H1 : Hid (Sr w w1 y ga G gc { s with path := Q } (.slice (some ⟨g, 0, none⟩) q cap) ov) := S1
  have f2 : w1.cell? ⟨y.sb, 2, none⟩ = some (.slice (some ⟨y.bm, 0, none⟩) G G) := S1.cells.cell (i := 2) (by omega)
  have f3 : w1.cell? ⟨y.sb, 3, none⟩ = some (.slice (some ⟨y.bl, 0, none⟩) G G) := S1.cells.cell (i := 3) (by omega)
  have cm : w1.cell? ⟨y.bm, n, none⟩ = some (.int .i64 (s.met n)) := S1.met.cell hn
  have cl : w1.cell? ⟨y.bl, n, none⟩ = some (.int .i64 (s.low n)) := S1.low.cell hn
  have hb : (s.low n == s.met n) = true := beq_iff_eq.2 HE.out
  clear S1
  go_quiet (fail)
  go_wp2_with fail
  refine (closePart_any w _ y ga G gc { s with path := Q } (.slice (some ⟨g, 0, none⟩) q cap) ov n A B HX.out.1 HX.out.2.1 HX.out.2.2.1 HX.out.2.2.2 (H1.out.drewN nq)).mono ?_
  rintro e w2 ⟨rfl, hP⟩
  have HF : Hid (PartShut w w2 y ga G gc { s with path := Q } (.slice (some ⟨g, 0, none⟩) q cap) A (n :: B)) := hP
  clear hP
  go_wp2
  exact bodyPost_ret (v := .tuple #[]) (results_none rfl _ _ _) rfl ⟨rfl, _, HF.out⟩

set_option maxHeartbeats 1000000 in
theorem leave_up (w wr0 : World) (y : Lay) (ga : Option Addr) (G gc : Nat) (s : ScSt) (pv0 ov : Value) (n : Nat) (P : List Nat) (b : Nat) (hn : n < G) (hbG : b < G) (hp : s.path = (P ++ [b]) ++ [n]) (hpl : s.path.length ≤ 20000) (he : s.low n ≠ s.met n)
    (hS : Sr w wr0 y ga G gc s pv0 ov) :
    Calls Try.prog 118 #[.pointer (some ⟨y.sb, 0, none⟩), .int .i64 n] wr0 fun e w' => e = .returned (.tuple #[]) ∧ ∃ pv', Sr w w' y ga G gc { s with path := P ++ [b], low := upd s.low b (min (s.low b) (s.low n)) } pv' ov := by
  obtain ⟨Q, hQ⟩ : ∃ Q, Q = P ++ [b] := ⟨_, rfl⟩
  have HQQ : Hid (Q = P ++ [b]) := hQ
  rw [← hQ] at hp ⊢
  have hq : s.path.length = Q.length + 1 := by rw [hp]; simp
  obtain ⟨g, cap, rfl, hcap⟩ := own_form hS.pth (by rw [hq]; omega)
  rw [hq] at hS hcap hpl
  have HP : Hid (s.path = Q ++ [n]) := hp
  have HE : Hid (s.low n ≠ s.met n) := he
  clear hp he hq hQ
  generalize hql : Q.length = q at *
  have HQ : Hid (Q.length = q) := hql
  clear hql
  have hnz : (n : Int) < G := by omega
  have f5 : wr0.cell? ⟨y.sb, 5, none⟩ = some (.slice (some ⟨g, 0, none⟩) (q + 1) cap) := hS.cells.cell (i := 5) (by omega)
  have z5 := hS.cells.frozen 5
  have HS : Hid (Sr w wr0 y ga G gc s (.slice (some ⟨g, 0, none⟩) (q + 1) cap) ov) := hS
  clear hS
  go_enter Try.func118, Try.ntmps118
  go_wp2_with fail
  refine wp_region_last 14 _ (by kernel_rfl) (by kernel_rfl) rfl rfl ?_
  simp only [List.take]
  repeat (go_big_quiet_step (fail))
  refine wpQuiet_nil ?_
  intro nq
  go_upto_region 1 with fail
  have S1 := (HS.out.drewN nq).popPath HP.out HQ.out
  clear f5 z5 HS
  generalize (wr0.drewN nq).setCell ⟨y.sb, 5, none⟩ (.slice (some ⟨g, 0, none⟩) q cap) = w1 at *
  have H1 : Hid (Sr w w1 y ga G gc { s with path := Q } (.slice (some ⟨g, 0, none⟩) q cap) ov) := S1
  have f2 : w1.cell? ⟨y.sb, 2, none⟩ = some (.slice (some ⟨y.bm, 0, none⟩) G G) := S1.cells.cell (i := 2) (by omega)
  have f3 : w1.cell? ⟨y.sb, 3, none⟩ = some (.slice (some ⟨y.bl, 0, none⟩) G G) := S1.cells.cell (i := 3) (by omega)
  have cm : w1.cell? ⟨y.bm, n, none⟩ = some (.int .i64 (s.met n)) := S1.met.cell hn
  have cl : w1.cell? ⟨y.bl, n, none⟩ = some (.int .i64 (s.low n)) := S1.low.cell hn
  have hb : (s.low n == s.met n) = false := beq_eq_false_iff_ne.2 HE.out
  have hP : Q.length = P.length + 1 := by rw [HQQ.out]; simp
  obtain ⟨r, rfl⟩ : ∃ r, q = r + 1 := ⟨P.length, by have := HQ.out; omega⟩
  have hr : P.length = r := by have := HQ.out; omega
  have f5 : w1.cell? ⟨y.sb, 5, none⟩ = some (.slice (some ⟨g, 0, none⟩) (r + 1) cap) := S1.cells.cell (i := 5) (by omega)
  have cb0 := own_cell (i := r) (l := Q) S1.pth (by have := HQ.out; omega)
  have eb : Q.getD r 0 = b := by rw [HQQ.out, ← hr]; simp
  rw [eb] at cb0
  have hbz : (b : Int) < G := by omega
  have cbl : w1.cell? ⟨y.bl, b, none⟩ = some (.int .i64 (s.low b)) := S1.low.cell hbG
  have zbl := S1.low.frozen b
  clear S1 eb hP hr
  go_quiet (fail)
  go_wp2_with fail
  go_quiet (fail)
  go_upto_region 4 with fail
  by_cases hmn : s.low n < s.low b
  · have HM : Hid (s.low n = min (s.low b) (s.low n)) := hid (by rw [Int.min_eq_right (by omega)])
    refine wp_region_last 21 _ (by kernel_rfl) (by kernel_rfl) rfl rfl ?_
    simp only [List.take]
    repeat (go_big_quiet_step (fail))
    refine wpQuiet_nil ?_
    intro nr
    go_wp2
    go_end0
    refine ⟨rfl, .slice (some ⟨g, 0, none⟩) (r + 1) cap, ?_⟩
    rw [← HM.out]
    exact (H1.out.drewN _).setLow b (s.low n)
  · have HM : Hid (s.low b = min (s.low b) (s.low n)) := hid (by rw [Int.min_eq_left (by omega)])
    refine wp_region_last 21 _ (by kernel_rfl) (by kernel_rfl) rfl rfl ?_
    simp only [List.take]
    repeat (go_big_quiet_step (fail))
    refine wpQuiet_nil ?_
    intro nr
    go_wp2
    go_end0
    refine ⟨rfl, .slice (some ⟨g, 0, none⟩) (r + 1) cap, ?_⟩
    rw [← HM.out]
    exact (H1.out.drewN _).setLow b (s.low b)

end Go.Proofs.Ythpbgfodejoecaa
