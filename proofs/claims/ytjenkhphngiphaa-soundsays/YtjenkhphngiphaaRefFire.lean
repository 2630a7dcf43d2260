/- The document's Begin, Mark, Fire. -/
import Derived.Test.YtjenkhphngiphaaGameFire
import Derived.Test.YtjenkhphngiphaaRefJ
namespace Go.Proofs.Ytjenkhphngiphaa
open Go.RowKit

theorem mk_allIn {F : Nat} {m : Nat → Int} : mkOk F F m = allIn F m 10 := by
  rw [Bool.eq_iff_iff]
  unfold mkOk allIn
  rw [decide_eq_true_eq, decide_eq_true_eq]
  exact ⟨fun h i hi => by have := h.2 i hi; omega, fun h => ⟨rfl, fun i hi => by have := h i hi; omega⟩⟩

/-- What Begin has laid till flow k. -/
structure Bgr (w wr : World) (c : Array Value) (F : Nat) (K A : Nat → Int) (k : Nat) : Prop where
  below : Below (w.heap.size + 1) (w.alloc (.cells c 25)) wr
  row : wr.rowIs (w.heap.size + 1) 3 F (fun i => .int .i64 (if i < k then bgn K A i else 0))

theorem bgr_start (w : World) (c : Array Value) (F : Nat) (K A : Nat → Int) : Bgr w ((w.alloc (.cells c 25)).alloc (.cells (madeCells #[.int .i64 0] F) 3)) c F K A 0 := by
  refine ⟨(Below.refl _ _).alloc (by simp) _, ?_⟩
  have := World.rowIs_made (w.alloc (.cells c 25)) (.int .i64 0) F 3
  have e : (w.alloc (.cells c 25)).heap.size = w.heap.size + 1 := by simp
  rw [e] at this
  exact this.congr (fun i _ => by simp)

theorem Bgr.hit {w wr : World} {c : Array Value} {F : Nat} {K A : Nat → Int} {k q : Nat} (h : Bgr w wr c F K A k) (hb : bgn K A k = 1) : Bgr w ((wr.setCell ⟨w.heap.size + 1, k, none⟩ (.int .i64 1)).drewN q) c F K A (k + 1) := by
  refine ⟨below_drewn (h.below.setCell (by show w.heap.size + 1 ≤ w.heap.size + 1; omega) _) q, ?_⟩
  refine World.rowIs.of_block (w := wr.setCell ⟨w.heap.size + 1, k, none⟩ (.int .i64 1)) ((h.row.set k _).congr (fun i _ => ?_)) rfl
  by_cases e : i = k
  · subst e
    simp [hb]
  · by_cases e2 : i < k
    · simp [e, e2, Nat.lt_succ_of_lt e2]
    · simp [e, e2, show ¬ i < k + 1 by omega]

theorem Bgr.miss {w wr : World} {c : Array Value} {F : Nat} {K A : Nat → Int} {k q : Nat} (h : Bgr w wr c F K A k) (hb : bgn K A k = 0) : Bgr w (wr.drewN q) c F K A (k + 1) := by
  refine ⟨below_drewn h.below q, ?_⟩
  refine World.rowIs.of_block (w := wr) (h.row.congr (fun i _ => ?_)) rfl
  by_cases e : i = k
  · subst e
    simp [hb]
  · by_cases e2 : i < k
    · simp [e2, Nat.lt_succ_of_lt e2]
    · simp [e2, show ¬ i < k + 1 by omega]

set_option maxHeartbeats 1000000 in
theorem beginRef_any {na fa : Option Addr} {N nc F fc : Nat} {M : Nat → ByteArray} {K A B : Nat → Int} {w : World} (hp : Prc w na N nc fa F M K A B) (he : ChkIs N F M K A B 0) :
    Calls Try.prog 27 #[.agg #[.slice na N nc, .slice fa F fc]] w fun e w' => Below w.heap.size w w' ∧ ∃ g, e = .returned (.slice (some ⟨g, 0, none⟩) F F) ∧ Mk w' g F (bgn K A) := by
  have HN : Hid (Nds w na N M K) := hp.nds
  have HF : Hid (Fls w fa F A B) := hp.fls
  have hz := chk_zero he
  have HE : Hid (∀ i, i < F → (0 ≤ A i ∧ A i < N) ∧ (0 ≤ B i ∧ B i < N)) := endsOk_all hz.2.2.1
  have hF30 : F ≤ 30 := hz.1.2
  have hN20 : N ≤ 20 := hz.1.1
  clear hz hp he
  have hmk := run_make_row' (P := Try.prog) 26 3 (.int .i64 0) 8 Try.underlying26 Try.info3 rfl .i64 .i64 F (by omega) (by omega)
  have HS : Hid (Bgr w ((w.alloc (.cells #[.slice na N nc, .slice fa F fc] 25)).alloc (.cells (madeCells #[.int .i64 0] F) 3)) #[.slice na N nc, .slice fa F fc] F K A 0) := bgr_start _ _ _ _ _
  go_enter Try.func27, Try.ntmps27
  go_wp2
  clear hmk
  go_loopw [4] (fun i wr => ∃ k : Nat, k ≤ F ∧ i = .int .i64 k ∧ Hid (Bgr w wr #[.slice na N nc, .slice fa F fc] F K A k)) (fun i _ => F - (intOf i).toNat)
  case atStart => exact ⟨0, Nat.zero_le _, rfl, HS.out⟩
  case round =>
    obtain ⟨k, hk, rfl, HT⟩ := hrel
    clear HS
    have HB : Hid (Below w.heap.size w wr) := (box_below _ _).trans (HT.out.below.mono (by omega))
    by_cases hlt : k < F
    · obtain ⟨b, o, ha, hc⟩ := HF.out
      obtain rfl := ha (by omega)
      obtain ⟨h1, h2⟩ := Fls.at hc HB.out hlt
      have hE := HE.out k hlt
      obtain ⟨x, hx⟩ : ∃ x : Nat, A k = x := ⟨(A k).toNat, by omega⟩
      have hxN : x < N := by omega
      have hxN' : (x : Int) < N := by omega
      have hki : (k : Int) < F := by omega
      rw [hx] at h1
      obtain ⟨b2, o2, ha2, hc2⟩ := HN.out
      obtain rfl := ha2 (by omega)
      obtain ⟨h3, h4⟩ := Nds.at hc2 HB.out hxN
      have hp0 : wr.cell? ⟨w.heap.size, 0, none⟩ = some (.slice (some ⟨b2, o2, none⟩) N nc) := box_keep HT.out.below rfl
      have hp1 : wr.cell? ⟨w.heap.size, 1, none⟩ = some (.slice (some ⟨b, o, none⟩) F fc) := box_keep HT.out.below rfl
      have h5 : wr.cell? ⟨w.heap.size + 1, k, none⟩ = some (.int .i64 (if k < k then bgn K A k else 0)) := HT.out.row.cell hlt
      rw [if_neg (Nat.lt_irrefl k)] at h5
      have h6 := HT.out.row.frozen k
      have HX : Hid (bgn K A k = if K x = 1 then 1 else 0) := by show bgn K A k = _; unfold bgn; rw [hx]; simp
      clear hc hc2 ha ha2 hE hx
      by_cases hK : K x = 1
      · have hb' : (K x == 1) = true := beq_iff_eq.2 hK
        have HT3 : Hid (∀ q, Bgr w ((wr.setCell ⟨w.heap.size + 1, k, none⟩ (.int .i64 1)).drewN q) #[.slice (some ⟨b2, o2, none⟩) N nc, .slice (some ⟨b, o, none⟩) F fc] F K A (k + 1)) := fun q => HT.out.hit (by rw [HX.out, if_pos hK])
        clear HT hK
        go_wp2
        go_quiet (fail)
        go_wp2
        go_roundw
        case rel => exact ⟨k + 1, by omega, by go_num, HT3.out _⟩
        case measure => simp [intOf]; omega
      · have hb' : (K x == 1) = false := beq_eq_false_iff_ne.2 hK
        have HT3 : Hid (∀ q, Bgr w (wr.drewN q) #[.slice (some ⟨b2, o2, none⟩) N nc, .slice (some ⟨b, o, none⟩) F fc] F K A (k + 1)) := fun q => HT.out.miss (by rw [HX.out, if_neg hK])
        clear HT hK
        go_wp2
        go_quiet (fail)
        go_wp2
        go_roundw
        case rel => exact ⟨k + 1, by omega, by go_num, HT3.out _⟩
        case measure => simp [intOf]; omega
    · obtain rfl : F = k := by omega
      go_wp2
      go_ret
      exact ⟨HB.out, _, rfl, F, _, Nat.le_refl _, HT.out.row, fun i hi => by rw [if_pos hi]⟩

end Go.Proofs.Ytjenkhphngiphaa
