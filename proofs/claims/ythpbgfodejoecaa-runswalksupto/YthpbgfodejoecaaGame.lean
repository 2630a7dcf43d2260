/- The board of a process; isMarking, begin. -/
import Derived.Test.YthpbgfodejoecaaStepsOf2
namespace Go.Proofs.Ythpbgfodejoecaa
open Go.RowKit

/-- The board of a process that has been checked. -/
structure Brd (w : World) (na : Option Addr) (N nc : Nat) (fa : Option Addr) (F : Nat) (sa ia oa : Option Addr) (M : Nat → ByteArray) (K A B : Nat → Int) (l : List St3) : Prop where
  prc : Prc w na N nc fa F M K A B
  chk : ChkIs N F M K A B 0
  sts : Sts w sa l.length (fun i => l.getD i (0, 0, 0))
  lis : l = stAll K A B F N
  few : l.length ≤ 60
  ins : Gr w ia N (fun j => tally B j F) (fun j i => (fl B j F).getD i 0)
  outs : Gr w oa N (fun j => tally A j F) (fun j i => (fl A j F).getD i 0)

theorem Brd.below {w w' : World} {na : Option Addr} {N nc : Nat} {fa : Option Addr} {F : Nat} {sa ia oa : Option Addr} {M : Nat → ByteArray} {K A B : Nat → Int} {l : List St3} (h : Brd w na N nc fa F sa ia oa M K A B l) (hb : Below w.heap.size w w') : Brd w' na N nc fa F sa ia oa M K A B l :=
  ⟨h.prc.below hb, h.chk, h.sts.below hb, h.lis, h.few, h.ins.below hb, h.outs.below hb⟩

/-- Is it a marking? -/
def mkOk (F n : Nat) (m : Nat → Int) : Bool := decide (n = F ∧ ∀ i, i < n → 0 ≤ m i ∧ m i ≤ 9)

theorem mkOk_len {F n : Nat} {m : Nat → Int} (h : n ≠ F) : mkOk F n m = false := by
  unfold mkOk
  rw [decide_eq_false_iff_not]
  exact fun hh => h hh.1

theorem mkOk_no {F n : Nat} {m : Nat → Int} (k : Nat) (hk : k < n) (h : m k < 0 ∨ 9 < m k) : mkOk F n m = false := by
  unfold mkOk
  rw [decide_eq_false_iff_not]
  intro hh
  have := hh.2 k hk
  omega

theorem mkOk_yes {n : Nat} {m : Nat → Int} (h : ∀ i, i < n → 0 ≤ m i ∧ m i ≤ 9) : mkOk n n m = true := by
  unfold mkOk
  rw [decide_eq_true_eq]
  exact ⟨rfl, h⟩

theorem row_at {w wr : World} {b o n : Nat} {Z : Nat → Int} (hc : ∀ i, i < n → w.cell? ⟨b, o + i, none⟩ = some (.int .i64 (Z i))) (hb : Below w.heap.size w wr) {k : Nat} (hk : k < n) : wr.cell? ⟨b, o + k, none⟩ = some (.int .i64 (Z k)) := by
  rw [hb.cell (p := ⟨b, o + k, none⟩) (World.block_lt_of_cell? _ _ (hc k hk))]
  exact hc k hk

set_option maxHeartbeats 1000000 in
theorem isMarking_any (na fa sa ia oa : Option Addr) (N nc F fc Sn sc In ic On oc : Nat) (ma : Option Addr) (n mc : Nat) (m : Nat → Int) (w : World) (hn : n ≤ 140737488355328) (h : Row w ma n m) :
    Calls Try.prog 74 #[.agg #[.slice na N nc, .slice fa F fc, .slice sa Sn sc, .slice ia In ic, .slice oa On oc], .slice ma n mc] w fun e w' => e = .returned (.bool (mkOk F n m)) ∧ Below w.heap.size w w' := by
  by_cases hnF : n = F
  · subst hnF
    obtain ⟨b, o, ha, hc⟩ := h
    have HC : Hid (∀ i, i < n → w.cell? ⟨b, o + i, none⟩ = some (.int .i64 (m i))) := hc
    clear hc
    go_enter Try.func74, Try.ntmps74
    go_wp2
    go_loopw [15] (fun i wr => ∃ k : Nat, k ≤ n ∧ i = .int .i64 k ∧ Hid (∀ j, j < k → 0 ≤ m j ∧ m j ≤ 9) ∧ Hid (Below w.heap.size w wr)) (fun i _ => n - (intOf i).toNat)
    case atStart => exact ⟨0, Nat.zero_le _, rfl, hid (fun j hj => absurd hj (Nat.not_lt_zero _)), box_below _ _⟩
    case round =>
      obtain ⟨k, hk, rfl, HJ, HB⟩ := hrel
      by_cases hlt : k < n
      · obtain rfl := ha (by omega)
        have hck := row_at HC.out HB.out hlt
        by_cases h1 : m k < 0
        · go_wp2
          go_ret
          exact ⟨ret_bool (mkOk_no k hlt (Or.inl h1)).symm, HB.out⟩
        · by_cases h2 : 9 < m k
          · go_wp2
            go_ret
            exact ⟨ret_bool (mkOk_no k hlt (Or.inr h2)).symm, HB.out⟩
          · go_wp2
            go_roundw
            case rel => exact ⟨k + 1, by omega, by go_num, hid (snoc_all HJ.out ⟨by omega, by omega⟩), HB.out⟩
            case measure => simp [intOf]; omega
      · go_wp2
        go_ret
        exact ⟨ret_bool (mkOk_yes (fun i hi => HJ.out i (by omega))).symm, HB.out⟩
  · have hb : ((n : Int) != (F : Int)) = true := by rw [bne_iff_ne]; omega
    have HE : Hid (mkOk F n m = false) := mkOk_len hnF
    clear h hnF
    go_enter Try.func74, Try.ntmps74
    go_wp2
    go_ret
    exact ⟨ret_bool HE.out.symm, box_below _ _⟩

/-- The first marking. -/
def bgn (K A : Nat → Int) (i : Nat) : Int := if K (A i).toNat = 1 then 1 else 0

/-- What begin has laid till flow k. -/
structure Bg (w wr : World) (c : Array Value) (F : Nat) (K A : Nat → Int) (k : Nat) : Prop where
  below : Below (w.heap.size + 1) (w.alloc (.cells c 94)) wr
  row : wr.rowIs (w.heap.size + 1) 3 F (fun i => .int .i64 (if i < k then bgn K A i else 0))

theorem bg_start (w : World) (c : Array Value) (F : Nat) (K A : Nat → Int) : Bg w ((w.alloc (.cells c 94)).alloc (.cells (madeCells #[.int .i64 0] F) 3)) c F K A 0 := by
  refine ⟨(Below.refl _ _).alloc (by simp) _, ?_⟩
  have := World.rowIs_made (w.alloc (.cells c 94)) (.int .i64 0) F 3
  have e : (w.alloc (.cells c 94)).heap.size = w.heap.size + 1 := by simp
  rw [e] at this
  exact this.congr (fun i _ => by simp)

theorem Bg.hit {w wr : World} {c : Array Value} {F : Nat} {K A : Nat → Int} {k : Nat} (h : Bg w wr c F K A k) (o : Obj) (hb : bgn K A k = 1) : Bg w ((wr.setCell ⟨w.heap.size + 1, k, none⟩ (.int .i64 1)).alloc o) c F K A (k + 1) := by
  have hlt := h.row.lt
  refine ⟨(h.below.setCell (by show w.heap.size + 1 ≤ w.heap.size + 1; omega) _).alloc (by simp [World.setCell]; omega) _, ?_⟩
  refine ((h.row.set k _).alloc o).congr (fun i _ => ?_)
  by_cases e : i = k
  · subst e
    simp [hb]
  · by_cases e2 : i < k
    · simp [e, e2, Nat.lt_succ_of_lt e2]
    · simp [e, e2, show ¬ i < k + 1 by omega]

theorem Bg.miss {w wr : World} {c : Array Value} {F : Nat} {K A : Nat → Int} {k : Nat} (h : Bg w wr c F K A k) (o : Obj) (hb : bgn K A k = 0) : Bg w (wr.alloc o) c F K A (k + 1) := by
  have hlt := h.row.lt
  refine ⟨h.below.alloc (by omega) _, ?_⟩
  refine (h.row.alloc o).congr (fun i _ => ?_)
  by_cases e : i = k
  · subst e
    simp [hb]
  · by_cases e2 : i < k
    · simp [e2, Nat.lt_succ_of_lt e2]
    · simp [e2, show ¬ i < k + 1 by omega]

set_option maxHeartbeats 1000000 in
theorem begin_any {na fa sa ia oa : Option Addr} {N nc F fc sc ic oc : Nat} {M : Nat → ByteArray} {K A B : Nat → Int} {l : List St3} {w : World} (h : Brd w na N nc fa F sa ia oa M K A B l) :
    Calls Try.prog 69 #[.agg #[.slice na N nc, .slice fa F fc, .slice sa l.length sc, .slice ia N ic, .slice oa N oc]] w fun e w' => Below w.heap.size w w' ∧ ∃ g, e = .returned (.slice (some ⟨g, 0, none⟩) F F) ∧ w'.rowIs g 3 F (fun i => .int .i64 (bgn K A i)) := by
  have HN : Hid (Nds w na N M K) := h.prc.nds
  have HF : Hid (Fls w fa F A B) := h.prc.fls
  have hz := chk_zero h.chk
  have HE : Hid (∀ i, i < F → (0 ≤ A i ∧ A i < N) ∧ (0 ≤ B i ∧ B i < N)) := endsOk_all hz.2.2.1
  have hF30 : F ≤ 30 := hz.1.2
  have hN20 : N ≤ 20 := hz.1.1
  clear hz h
  have hmk := run_make_row' (P := Try.prog) 26 3 (.int .i64 0) 8 Try.underlying26 Try.info3 rfl .i64 .i64 F (by omega) (by omega)
  have HS : Hid (Bg w ((w.alloc (.cells #[.slice na N nc, .slice fa F fc, .slice sa l.length sc, .slice ia N ic, .slice oa N oc] 94)).alloc (.cells (madeCells #[.int .i64 0] F) 3)) #[.slice na N nc, .slice fa F fc, .slice sa l.length sc, .slice ia N ic, .slice oa N oc] F K A 0) := bg_start _ _ _ _ _
  go_enter Try.func69, Try.ntmps69
  go_wp2
  clear hmk
  go_loopw [13] (fun i wr => ∃ k : Nat, k ≤ F ∧ i = .int .i64 k ∧ Hid (Bg w wr #[.slice na N nc, .slice fa F fc, .slice sa l.length sc, .slice ia N ic, .slice oa N oc] F K A k)) (fun i _ => F - (intOf i).toNat)
  case atStart => exact ⟨0, Nat.zero_le _, rfl, HS.out⟩
  case round =>
    obtain ⟨k, hk, rfl, HT⟩ := hrel
    clear HS
    have HB : Hid (Below w.heap.size w wr) := (box_below _ _).trans (HT.out.below.mono (by omega))
    have hs1 : w.heap.size + 1 < wr.heap.size := HT.out.row.lt
    have hs0 : w.heap.size < wr.heap.size := by omega
    by_cases hlt : k < F
    · obtain ⟨b, o, ha, hc⟩ := HF.out
      obtain rfl := ha (by omega)
      obtain ⟨h1, h2⟩ := Fls.at hc HB.out hlt
      have hE := HE.out k hlt
      obtain ⟨x, hx⟩ : ∃ x : Nat, A k = x := ⟨(A k).toNat, by omega⟩
      have hxN : x < N := by omega
      have hxN' : (x : Int) < N := by omega
      rw [hx] at h1
      obtain ⟨b2, o2, ha2, hc2⟩ := HN.out
      obtain rfl := ha2 (by omega)
      obtain ⟨h3, h4⟩ := Nds.at hc2 HB.out hxN
      have hp0 : wr.cell? ⟨w.heap.size, 0, none⟩ = some (.slice (some ⟨b2, o2, none⟩) N nc) := box_keep HT.out.below rfl
      have hl2 : b2 < wr.heap.size := World.block_lt_of_cell? _ _ h4
      have h5 : wr.cell? ⟨w.heap.size + 1, k, none⟩ = some (.int .i64 (if k < k then bgn K A k else 0)) := HT.out.row.cell hlt
      rw [if_neg (Nat.lt_irrefl k)] at h5
      have h6 := HT.out.row.frozen k
      have HX : Hid (bgn K A k = if K x = 1 then 1 else 0) := by show bgn K A k = _; unfold bgn; rw [hx]; simp
      clear hc hc2 ha ha2 hE hx
      by_cases hK : K x = 1
      · have hb' : (K x == 1) = true := beq_iff_eq.2 hK
        have HT2 := HT.out.hit (.cells #[.int .i64 x, .int .i64 (B k)] 86) (by rw [HX.out, if_pos hK])
        have HT3 : Hid (Bg w ((wr.setCell ⟨w.heap.size + 1, k, none⟩ (.int .i64 1)).alloc (.cells #[.int .i64 x, .int .i64 (B k)] 86)) #[.slice (some ⟨b2, o2, none⟩) N nc, .slice (some ⟨b, o, none⟩) F fc, .slice sa l.length sc, .slice ia N ic, .slice oa N oc] F K A (k + 1)) := HT2
        clear HT HT2 hK
        go_wp2
        go_roundw
        case rel => exact ⟨k + 1, by omega, by go_num, HT3.out⟩
        case measure => simp [intOf]; omega
      · have hb' : (K x == 1) = false := beq_eq_false_iff_ne.2 hK
        have HT3 : Hid (Bg w (wr.alloc (.cells #[.int .i64 x, .int .i64 (B k)] 86)) #[.slice (some ⟨b2, o2, none⟩) N nc, .slice (some ⟨b, o, none⟩) F fc, .slice sa l.length sc, .slice ia N ic, .slice oa N oc] F K A (k + 1)) := HT.out.miss _ (by rw [HX.out, if_neg hK])
        clear HT hK
        go_wp2
        go_roundw
        case rel => exact ⟨k + 1, by omega, by go_num, HT3.out⟩
        case measure => simp [intOf]; omega
    · obtain rfl : F = k := by omega
      go_wp2
      go_ret
      exact ⟨HB.out, _, rfl, HT.out.row.congr (fun i hi => by rw [if_pos hi])⟩

end Go.Proofs.Ythpbgfodejoecaa
