/- number, by its contract; which numbers the parts get. -/
import Derived.Test.YtgahdclbaifcbaaScSearch3
import Derived.Test.YtgahdclbaifcbaaTurn2
namespace Go.Proofs.Ytgahdclbaifcbaa
open Go.RowKit

/-- How many of the first n are their parts' least nodes. -/
def sc_cs (ml : Nat → Nat) : Nat → Nat
  | 0 => 0
  | n + 1 => sc_cs ml n + if ml n = n then 1 else 0

theorem cs_le (ml : Nat → Nat) : ∀ n, sc_cs ml n ≤ n
  | 0 => Nat.le_refl _
  | n + 1 => by
    have := cs_le ml n
    simp only [sc_cs]
    split <;> omega

set_option maxHeartbeats 1000000 in
theorem number_any (w : World) (lb G c : Nat) (ml : Nat → Nat) (hG : G ≤ 20000) (hml : ∀ x, x < G → ml x ≤ x ∧ ml (ml x) = ml x) (hl : ∀ x, x < G → w.cell? ⟨lb, x, none⟩ = some (.int .i64 (ml x : Nat))) :
    Calls Try.prog 65 #[.slice (some ⟨lb, 0, none⟩) G c] w fun e w' => e = .returned (.slice (some ⟨w.heap.size, 0, none⟩) G G) ∧ Below w.heap.size w w' ∧ w'.rowIs w.heap.size 3 G (fun x => .int .i64 (sc_cs ml (ml x) : Nat)) := by
  have HML : Hid (∀ x, x < G → ml x ≤ x ∧ ml (ml x) = ml x) := hml
  have HLC : Hid (∀ x, x < G → w.cell? ⟨lb, x, none⟩ = some (.int .i64 (ml x : Nat))) := hl
  clear hml hl
  have hmk := run_make_row' (P := Try.prog) 22 3 (.int .i64 0) 8 Try.underlying22 Try.info3 rfl .i64 .i64 G (by omega) (by omega)
  go_enter Try.func65, Try.ntmps65
  go_wp2
  clear hmk
  go_loopw [4, 12] (fun sc i wr => ∃ k : Nat, k ≤ G ∧ i = .int .i64 k ∧ sc = .int .i64 (sc_cs ml k : Nat) ∧ Hid (Below w.heap.size w wr ∧ wr.rowIs w.heap.size 3 G (fun x => .int .i64 (if x < k then ((sc_cs ml (ml x) : Nat) : Int) else 0)))) (fun _ i _ => G - (intOf i).toNat)
  case atStart => exact ⟨0, Nat.zero_le _, rfl, rfl, hid ⟨(Below.refl _ _).alloc (Nat.le_refl _) _, (World.rowIs_made w (.int .i64 0) G 3).congr (fun x _ => by rw [if_neg (by omega)])⟩⟩
  case round =>
    obtain ⟨k, hk, rfl, rfl, HW⟩ := hrel
    have hcs := cs_le ml k
    by_cases hlt : k < G
    · have hkz : (k : Int) < G := by omega
      have hck : wr.cell? ⟨lb, k, none⟩ = some (.int .i64 (ml k : Nat)) := by
        rw [HW.out.1.cell (p := ⟨lb, k, none⟩) (World.block_lt_of_cell? _ _ (HLC.out k hlt))]; exact HLC.out k hlt
      have hpk := HW.out.2.cell hlt
      have hpz := HW.out.2.frozen k
      have hmk := HML.out k hlt
      by_cases e : ml k = k
      · have HE : Hid (ml k = k) := e
        have HS : Hid (sc_cs ml (k + 1) = sc_cs ml k + 1) := hid (by simp only [sc_cs]; rw [if_pos e])
        rw [e] at hck
        have hb : ((k : Int) == k) = true := by simp
        clear e hmk
        generalize sc_cs ml k = ck at *
        go_wp2
        go_roundw
        case rel =>
          refine ⟨k + 1, by omega, by go_num, by rw [HS.out]; go_num, hid ⟨HW.out.1.setCell (Nat.le_refl _) _, (HW.out.2.set k _).congr (fun x _ => ?_)⟩⟩
          by_cases ex : x = k
          · subst ex
            rw [if_pos rfl, if_pos (by omega), HE.out]
            have h1 := HS.out
            simp only [sc_cs] at h1
            rw [if_pos HE.out] at h1
            congr 1
            omega
          · rw [if_neg ex]
            by_cases ex2 : x < k
            · rw [if_pos ex2, if_pos (by omega)]
            · rw [if_neg ex2, if_neg (by omega)]
        case measure => simp [intOf]; omega
      · have HS : Hid (sc_cs ml (k + 1) = sc_cs ml k) := hid (by simp only [sc_cs]; rw [if_neg e]; rfl)
        obtain ⟨m, hm⟩ : ∃ m, ml k = m := ⟨_, rfl⟩
        have HMm : Hid (ml k = m ∧ ml m = m) := ⟨hm, by rw [← hm]; exact hmk.2⟩
        rw [hm] at hck e hmk
        have hmlt : m < k := by omega
        have hmz : (m : Int) < G := by omega
        have hb : ((m : Int) == k) = false := by rw [beq_eq_false_iff_ne]; omega
        have hpm := HW.out.2.cell (i := m) (by omega)
        rw [if_pos hmlt, HMm.out.2] at hpm
        have hpm' : wr.cell? ⟨w.heap.size, m, none⟩ = some (.int .i64 (sc_cs ml m : Nat)) := hpm
        clear e hmk hm hpm
        generalize hcm : sc_cs ml m = cm at *
        have HCM : Hid (sc_cs ml m = cm) := hcm
        clear hcm
        go_wp2
        go_roundw
        case rel =>
          refine ⟨k + 1, by omega, by go_num, by rw [HS.out], hid ⟨HW.out.1.setCell (Nat.le_refl _) _, (HW.out.2.set k _).congr (fun x _ => ?_)⟩⟩
          by_cases ex : x = k
          · subst ex
            rw [if_pos rfl, if_pos (by omega), HMm.out.1, HCM.out]
          · rw [if_neg ex]
            by_cases ex2 : x < k
            · rw [if_pos ex2, if_pos (by omega)]
            · rw [if_neg ex2, if_neg (by omega)]
        case measure => simp [intOf]; omega
    · go_wp2
      go_ret
      exact ⟨rfl, HW.out.1, HW.out.2.congr (fun x hx => by rw [if_pos (by omega)])⟩

end Go.Proofs.Ytgahdclbaifcbaa

