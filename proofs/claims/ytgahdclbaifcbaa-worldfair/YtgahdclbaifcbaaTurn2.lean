/- Small functions, by their contracts. -/
import Derived.Test.YtgahdclbaifcbaaTurn
import Derived.Test.YtgahdclbaifcbaaFam
namespace Go.Proofs.Ytgahdclbaifcbaa
open Go.RowKit

set_option maxHeartbeats 400000 in
theorem endsWith_any (a : Option Addr) (n c : Nat) (Z : Nat → Int) (x : Int) (w : World) (hn : n ≤ 140737488355328) (h : Row w a n Z) :
    Calls Try.prog 47 #[.slice a n c, .int .i64 x] w fun e w' => e = .returned (.bool (decide (0 < n ∧ Z (n - 1) = x))) ∧ w' = w := by
  obtain ⟨b, o, ha, hc⟩ := h
  by_cases h0 : 0 < n
  · obtain rfl := ha h0
    have hcl := hc (n - 1) (by omega)
    have hz : (0 : Int) < n := by omega
    obtain ⟨k, rfl⟩ : ∃ k, n = k + 1 := ⟨n - 1, by omega⟩
    simp only [Nat.add_sub_cancel] at hcl ⊢
    clear hc ha
    go_enter Try.func47, Try.ntmps47
    go_wp2
    go_ret
    refine ⟨ret_bool ?_, rfl⟩
    rw [Bool.eq_iff_iff]; simp
  · have hz : ¬ (0 : Int) < n := by omega
    obtain rfl : n = 0 := by omega
    go_enter Try.func47, Try.ntmps47
    go_wp2
    go_ret
    exact ⟨ret_bool (by simp), rfl⟩

set_option maxHeartbeats 1000000 in
theorem turn_ok (ga : Option Addr) (G gc : Nat) (L : Nat → Nat) (Z : Nat → Nat → Int) (w : World) (hL : ∀ r, r < G → L r ≤ 140737488355328) (h : Gr w ga G L Z) (h0 : errG G L Z = 0) :
    Calls Try.prog 27 #[.slice ga G gc] w fun e w' => e = .returned (.tuple #[.slice (some ⟨w.heap.size, 0, none⟩) G G, .int .i64 0]) ∧ ∃ V, Fam w w' G (tl L Z G) V := by
  have C : Hid (Calls Try.prog 46 #[.slice ga G gc] w fun e w' => e = .returned (.int .i64 0) ∧ w' = w) := check_ok ga G gc L Z w hL h h0
  obtain ⟨hG, hall⟩ := errG_zero h0
  have HA : Hid (∀ r, r < G → ∀ i, i < L r → 0 ≤ Z r i ∧ Z r i < G) := hall
  have HL : Hid (∀ r, r < G → L r ≤ 140737488355328) := hL
  obtain ⟨b, o, ha, hc⟩ := h
  have HC : Hid (∀ r, r < G → ∃ a c, w.cell? ⟨b, o + r, none⟩ = some (.slice a (L r) c) ∧ Row w a (L r) (Z r)) := hc
  clear hc hL hall h0
  have hmk := run_make_row' (P := Try.prog) 23 22 (.slice none 0 0) 24 Try.underlying23 Try.info22 rfl .i64 .i64 G (by omega) (by omega)
  obtain ⟨i0, hi, hz0, hz1, hz2⟩ := info_parts Try.info3
  have HI : Hid (Try.prog.info? 3 = some i0 ∧ i0.zero = some (.int .i64 0) ∧ i0.size = 1 ∧ i0.bytes = 8) := ⟨hi, hz0, hz1, hz2⟩
  clear hi hz0 hz1 hz2
  go_enter Try.func27, Try.ntmps27
  go_wp2_with fail
  refine C.out.mono ?_
  rintro e w' ⟨rfl, rfl⟩
  go_wp2
  clear hmk
  go_loopw [20] (fun i wr => ∃ r : Nat, r ≤ G ∧ i = .int .i64 r ∧ ∃ V, Fam w' wr G (tl L Z r) V) (fun i _ => G - (intOf i).toNat)
  case atStart => exact ⟨0, Nat.zero_le _, rfl, _, fam_start w' G _ (fun j _ => rfl)⟩
  case round =>
    obtain ⟨r, hr, rfl, V, hF⟩ := hrel
    by_cases hlt : r < G
    · obtain rfl := ha (by omega)
      obtain ⟨a, c, hck0, hrow0⟩ := HC.out r hlt
      have hck : wr.cell? ⟨b, o + r, none⟩ = some (.slice a (L r) c) := by
        rw [hF.below.cell (p := ⟨b, o + r, none⟩) (World.block_lt_of_cell? _ _ hck0)]; exact hck0
      have HR : Hid (Row w' a (L r) (Z r)) := hrow0
      have HF : Hid (Fam w' wr G (tl L Z r) V) := hF
      have hLr := HL.out r hlt
      clear hrow0 hck0 hF ha
      go_wp2
      go_loopw [27] (fun i wi => ∃ k : Nat, k ≤ L r ∧ i = .int .i64 k ∧ ∃ V, Fam w' wi G (tli L Z r k) V) (fun i _ => L r - (intOf i).toNat)
      case atStart => exact ⟨0, Nat.zero_le _, rfl, V, HF.out.congr (fun j _ => (tli_zero L Z r j).symm)⟩
      case round =>
        obtain ⟨k, hk, rfl, V', hF⟩ := hrel
        by_cases hlk : k < L r
        · obtain ⟨b', o', ha', hc'⟩ := HR.out
          obtain rfl := ha' (by omega)
          obtain ⟨t, ht⟩ : ∃ t : Nat, Z r k = t := ⟨(Z r k).toNat, by have := HA.out r hlt k hlk; omega⟩
          have htG : t < G := by have := HA.out r hlt k hlk; omega
          have htz : (t : Int) < G := by omega
          have hcell : wr.cell? ⟨b', o' + k, none⟩ = some (.int .i64 t) := by
            rw [hF.below.cell (p := ⟨b', o' + k, none⟩) (World.block_lt_of_cell? _ _ (hc' k hlk)), hc' k hlk, ht]
          have HT : Hid (Z r k = t) := ht
          clear hck ht hc' ha' HF
          obtain ⟨a2, c2, hv, hrow⟩ := owns_row (hF.own t htG)
          have hown := hF.own t htG
          have htop := hF.top.cell htG
          rw [hv] at hown htop
          have hlen := tli_le L Z r k t
          have CE := endsWith_any a2 (tli L Z r k t).length c2 _ (r : Int) wr (by omega) hrow
          rw [tli_last] at CE
          have HE : Hid (Calls Try.prog 47 #[.slice a2 (tli L Z r k t).length c2, .int .i64 r] wr fun e w' => e = .returned (.bool (has k (Z r) t)) ∧ w' = wr) := CE
          have HF : Hid (Fam w' wr G (tli L Z r k) V') := hF
          have HV : Hid (V' t = .slice a2 (tli L Z r k t).length c2) := hv
          have HO : Hid (wr.ownsRow (w'.heap.size + 1) 3 1 (.slice a2 (tli L Z r k t).length c2) (tli L Z r k t).length (vals (tli L Z r k t))) := hown
          have hsize := hF.size
          clear CE hrow hF hv hown
          generalize hn : (tli L Z r k t).length = n at *
          have HN : Hid ((tli L Z r k t).length = n) := hn
          clear hn
          cases hb : has k (Z r) t
          · have HB : Hid (has k (Z r) t = false) := hb
            rw [hb] at HE
            clear hb
            go_wp2_with fail
            refine HE.out.mono ?_
            rintro e w1 ⟨rfl, rfl⟩
            go_wp2_with (at_builtin; refine wpList_append_own_at _ rfl _ _ 22 rfl (w'.heap.size + 1) 3 i0 (.int .i64 0) 1 8 Try.underlying22 HI.out.1 HI.out.2.1 HI.out.2.2.1 HI.out.2.2.2 rfl (by decide) _ _ _ rfl (HO.out.alloc _) ⟨w1.heap.size, 0, none⟩ 1 1 [.int .i64 r] rfl rfl (cell_one_new _ _ _) (ints_oneCell .i64 [(r : Int)]) (by unfold maxLen; omega) (by omega) (by simp; omega) ?_; intro v' w2 hown' hgrow hnil hloc; obtain ⟨⟨a3, c3, rfl⟩, g1, g2, G3⟩ := Fam.step' HF.out htG HN.out HV.out hown' hgrow hloc; clear hown' hgrow hnil hloc)
            go_roundw
            case rel => exact ⟨k + 1, by omega, by go_num, _, G3.out.congr (fun j _ => tli_new L Z r k t HT.out HB.out j)⟩
            case measure => simp [intOf]; omega
          · have HB : Hid (has k (Z r) t = true) := hb
            rw [hb] at HE
            clear hb
            go_wp2_with fail
            refine HE.out.mono ?_
            rintro e w1 ⟨rfl, rfl⟩
            go_wp2
            go_roundw
            case rel => exact ⟨k + 1, by omega, by go_num, V', HF.out.congr (fun j _ => tli_hit L Z r k t HT.out HB.out j)⟩
            case measure => simp [intOf]; omega
        · go_wp2
          obtain rfl : k = L r := by omega
          go_roundw
          case rel => exact ⟨r + 1, by omega, by go_num, V', hF.congr (fun j _ => tli_full L Z r j)⟩
          case measure => simp [intOf]; omega
    · go_wp2
      obtain rfl : r = G := by omega
      go_ret2
      exact ⟨rfl, V, hF⟩

end Go.Proofs.Ytgahdclbaifcbaa

