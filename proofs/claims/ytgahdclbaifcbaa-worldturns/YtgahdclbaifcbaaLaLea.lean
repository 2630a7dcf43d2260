/- Clone, Equal of letters, period. -/
import Derived.Test.YtgahdclbaifcbaaLaApp
import Derived.Test.YtgahdclbaifcbaaRws
import Derived.Test.YtgahdclbaifcbaaLst
import Derived.Test.YtgahdclbaifcbaaLea
import Derived.Test.YtgahdclbaifcbaaApp
import Derived.Test.YtgahdclbaifcbaaWck
import Derived.Test.YtgahdclbaifcbaaHeld
import Derived.Test.YtgahdclbaifcbaaUnr
import Derived.Test.YtgahdclbaifcbaaSgl
import Derived.Test.YtgahdclbaifcbaaGth
namespace Go.Proofs.Ytgahdclbaifcbaa
open Go.RowKit

theorem RowU.take {w : World} {a : Option Addr} {n k : Nat} {Z : Nat → Int} (h : RowU w a n Z) (hk : k ≤ n) : RowU w a k Z := by
  obtain ⟨b, o, h1, h2⟩ := h
  exact ⟨b, o, fun hh => h1 (by omega), fun i hi => h2 i (by omega)⟩
theorem RowU.drop {w : World} {b o n k : Nat} {Z : Nat → Int} (h : ∀ i, i < n → w.cell? ⟨b, o + i, none⟩ = some (.int .u64 (Z i))) : RowU w (some ⟨b, o + k, none⟩) (n - k) (fun i => Z (k + i)) :=
  ⟨b, o + k, fun _ => rfl, fun i hi => by rw [Nat.add_assoc]; exact h (k + i) (by omega)⟩

theorem Try.elem27 : Try.prog.underlying 24 = some (.slice (Try.prog.elem 24)) := by kernel_rfl
theorem Try.elem25e : Try.prog.elem 24 = 70 := by kernel_rfl
theorem size30 (w : World) : (Go.sizeOf (Try.prog.elem 24)).run Try.prog w = .ok 1 w := by
  obtain ⟨i, hi, _, hs, _⟩ := info_parts Try.info70
  rw [Try.elem25e]
  simp [Go.sizeOf, typeInfo, hi, hs]

theorem sl_from (b o len cap k : Nat) (hk : k ≤ len) (hc : k < cap) (w : World) : (Instr.slice 24 (.slice (some ⟨b, o, none⟩) len cap) (some (.int .i64 k)) none none).run Try.prog w = .ok (.slice (some ⟨b, o + k, none⟩) (len - k) (cap - k)) w := by
  rw [run_slice_l (P := Try.prog) (w := w) 24 (some ⟨b, o, none⟩) len cap Try.elem27 .i64 k (by omega) (by omega), size30]
  simp [Result.andThen, sliced, addr_none]
  omega

theorem sl_to (b o len cap h : Nat) (hh : h ≤ cap) (w : World) : (Instr.slice 24 (.slice (some ⟨b, o, none⟩) len cap) none (some (.int .i64 h)) none).run Try.prog w = .ok (.slice (some ⟨b, o, none⟩) h cap) w := by
  rw [run_slice_h (P := Try.prog) (w := w) 24 (some ⟨b, o, none⟩) len cap Try.elem27 .i64 h (by omega) (by omega), size30]
  simp [Result.andThen, sliced, addr_none]

theorem sl_to_nil (len cap h : Nat) (hh : h ≤ cap) (w : World) : (Instr.slice 24 (.slice none len cap) none (some (.int .i64 h)) none).run Try.prog w = .ok (.slice none h cap) w := by
  rw [run_slice_h (P := Try.prog) (w := w) 24 none len cap Try.elem27 .i64 h (by omega) (by omega), size30]
  simp [Result.andThen, sliced]

theorem sameU_iff {n m : Nat} {Y Z : Nat → Int} : sameU n m Y Z = true ↔ (n = m ∧ ∀ i, i < n → Y i = Z i) := by unfold sameU; rw [decide_eq_true_eq]

theorem least_ex {P : Nat → Prop} : ∀ n, P n → ∃ k, P k ∧ ∀ j, j < k → ¬ P j := by
  intro n
  induction n using Nat.strongRecOn with
  | ind n ih =>
    intro hn
    by_cases h : ∃ j, j < n ∧ P j
    · obtain ⟨j, h1, h2⟩ := h
      exact ih j h1 h2
    · exact ⟨n, hn, fun j hj hp => h ⟨j, hj, hp⟩⟩

theorem prd_ex {m : Nat} (hm : 0 < m) (L : Nat → Int) : ∃ p, Prd m L p ∧ p ≤ m := by
  obtain ⟨p, ⟨h1, h2, h3⟩, h4⟩ := least_ex (P := fun c => 0 < c ∧ m % c = 0 ∧ ∀ i, i + c < m → L (i + c) = L i) m ⟨hm, Nat.mod_self m, fun i hi => by omega⟩
  exact ⟨p, ⟨h1, h2, h3, fun c hc hcp hh => h4 c hcp ⟨hc, hh⟩⟩, Nat.le_of_dvd hm (Nat.dvd_of_mod_eq_zero h2)⟩

set_option maxHeartbeats 2000000 in
theorem period_any {w : World} {la : Option Addr} {m lc : Nat} {L : Nat → Int} {p : Nat} (h : RowU w la m L) (hm : 0 < m) (hm60 : m ≤ 60) (hcap : m ≤ lc) (hp : Prd m L p) (hpm : p ≤ m) :
    Calls Try.prog 60 #[.slice la m lc] w fun e w' => e = .returned (.int .i64 p) ∧ ∃ q, w' = w.drewN q := by
  obtain ⟨b, o, ha, hc⟩ := h
  obtain rfl := ha hm
  have HC := hid hc
  have HP := hid hp
  have hp0 := hp.pos
  clear hc ha hp
  go_enter Try.func60, Try.ntmps60
  go_wp2
  go_loopw [3] (fun i wr => ∃ k : Nat, 1 ≤ k ∧ k ≤ p ∧ i = .int .i64 k ∧ ∃ q, wr = w.drewN q) (fun i _ => m - (intOf i).toNat)
  case atStart => exact ⟨1, by omega, by omega, rfl, 0, rfl⟩
  case round =>
    obtain ⟨k, hk1, hkp, rfl, q, hwq⟩ := hrel
    have HWR := hid hwq
    have HWH : Hid (wr.heap = w.heap) := by rw [hwq]; exact hid rfl
    have HWE : Hid (∀ j, ∃ q', wr.drewN j = w.drewN q') := fun j => by rw [HWR.out]; exact ⟨_, World.drewN_drewN _ _ _⟩
    clear hwq
    by_cases hlt : k < m
    · have hkz : (k : Int) < m := by omega
      have hk0 : (0 : Int) < k := by omega
      have hkn : ¬ (k : Int) = 0 := by omega
      have hkc : k < lc := by omega
      have hmk : (m : Int) - k = ((m - k : Nat) : Int) := by omega
      have hmkl : m - k ≤ lc := by omega
      by_cases hd : m % k = 0
      · have hdz : (m : Int) % k = 0 := by omega
        have hk0n : ¬ k = 0 := by omega
        have htb : ((m : Int).tmod k == 0) = true := by rw [Int.tmod_eq_emod_of_nonneg (by omega)]; exact beq_iff_eq.2 hdz
        have HDk := hid hd
        have sl1 := sl_from b o m lc k (by omega) hkc
        have sl2 := sl_to b o m lc (m - k) hmkl
        have hwr : IntKind.i64.wrap ((m - k : Nat) : Int) = ((m - k : Nat) : Int) := by rw [IntKind.wrap_i64] <;> omega
        clear hd hdz
        have hr1 : RowU w (some ⟨b, o + k, none⟩) (m - k) (fun i => L (k + i)) := RowU.drop HC.out
        have hr2 : RowU w (some ⟨b, o, none⟩) (m - k) L := RowU.take ⟨b, o, fun _ => rfl, HC.out⟩ (by omega)
        have C : Hid (∀ u : World, u.heap = wr.heap → ∀ c c', Calls Try.prog 41 #[.slice (some ⟨b, o + k, none⟩) ((m - k : Nat)) c, .slice (some ⟨b, o, none⟩) ((m - k : Nat)) c'] u fun e w' => e = .returned (.bool (sameU (m - k) (m - k) (fun i => L (k + i)) L)) ∧ ∃ q, w' = u.drewN q) := fun u hu c c' => by
          refine equalU_any (by omega) ?_ ?_
          · exact ⟨b, o + k, fun _ => rfl, fun i hi => by rw [World.cell?_of_block (w := w) (by rw [hu, HWH.out]), Nat.add_assoc]; exact HC.out (k + i) (by omega)⟩
          · exact ⟨b, o, fun _ => rfl, fun i hi => by rw [World.cell?_of_block (w := w) (by rw [hu, HWH.out])]; exact HC.out i (by omega)⟩
        by_cases hkp2 : k = p
        · have E : Hid (sameU (m - k) (m - k) (fun i => L (k + i)) L = true) := sameU_yes rfl (fun i hi => by rw [hkp2, Nat.add_comm]; exact HP.out.same i (by omega))
          have HKP := hid hkp2
          rw [E.out] at C
          clear hr1 hr2 hkp2
          go_wp2
          go_quiet (first | (go_at_call 41; refine Calls.quiet_of (C.out _ ?_ _ _); rfl))
          go_wp2
          go_ret
          exact ⟨ret_int (by rw [HKP.out]), HWE.out _⟩
        · have E : Hid (sameU (m - k) (m - k) (fun i => L (k + i)) L = false) := by
            cases e : sameU (m - k) (m - k) (fun i => L (k + i)) L
            · exact hid rfl
            · obtain ⟨_, h2⟩ := sameU_iff.1 e
              exact absurd ⟨HDk.out, fun i hi => by have := h2 i (by omega); rw [Nat.add_comm] at this; exact this⟩ (HP.out.least k (by omega) (by omega))
          rw [E.out] at C
          clear hr1 hr2
          go_wp2
          go_quiet (first | (go_at_call 41; refine Calls.quiet_of (C.out _ ?_ _ _); rfl))
          go_wp2
          go_roundw
          case rel => exact ⟨k + 1, by omega, by omega, by go_num, HWE.out _⟩
          case measure => simp [intOf]; omega
      · have hdz : ((m : Int) % k == 0) = false := beq_eq_false_iff_ne.2 (by omega)
        have hkp2 : k < p := by
          have := HP.out.div
          by_cases e : k = p
          · rw [e] at hd; exact absurd this hd
          · omega
        go_wp2
        go_quiet (fail)
        go_wp2
        go_roundw
        case rel => exact ⟨k + 1, by omega, by omega, by go_num, HWE.out _⟩
        case measure => simp [intOf]; omega
    · obtain rfl : k = m := by omega
      obtain rfl : k = p := by omega
      go_wp2
      go_ret
      exact ⟨rfl, q, HWR.out⟩

end Go.Proofs.Ytgahdclbaifcbaa

