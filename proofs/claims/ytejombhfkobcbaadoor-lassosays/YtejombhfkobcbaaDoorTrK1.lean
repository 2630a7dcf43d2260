/- The document's True, of formulas of the Kind 1. -/
import Derived.Test.YtejombhfkobcbaaDoorOw
namespace Go.Proofs.YtejombhfkobcbaaDoor
open Go.RowKit

set_option maxHeartbeats 16000000 in
set_option maxRecDepth 20000 in
theorem true_k1 (sa : Option Addr) (s sc : Nat) (la : Option Addr) (m n lc : Nat) (S L : Nat → Int) (R : Fml → Nat → Bool) (HN : Hid (n = s + m)) (HR : Hid (R = hb n (atm s m S L))) (hn60 : n ≤ 60) (hm : 0 < m) :
    ∀ (t : Fml), t.kind = 1 → (∀ i, i < t.cnt → ∀ (a : Option Addr) (cap : Nat) (w : World), Kds w (t.kid i) a → Wf (t.kid i) → Wd w sa s la m S L → Calls Tryd.prog 15 #[.agg #[.int .i64 (t.kid i).kind, .int .i64 (t.kid i).num, .slice a (t.kid i).cnt cap], .agg #[.slice sa s sc, .slice la m lc]] w fun e w' => NewB w n (R (t.kid i)) e w') →
    ∀ (a : Option Addr) (cap : Nat) (w : World), Kds w t a → Wf t → Wd w sa s la m S L →
    Calls Tryd.prog 15 #[.agg #[.int .i64 t.kind, .int .i64 t.num, .slice a t.cnt cap], .agg #[.slice sa s sc, .slice la m lc]] w fun e w' => NewB w n (R t) e w' := by
  intro t hkd0 ih a cap w hK hW hZ
  obtain ⟨b, o, ha, hkid⟩ := hK.out
  obtain ⟨hfit, hWk⟩ := hW.out
  obtain ⟨_, _, har⟩ := fit_kind hfit
  have hx3 := (fit_parts hfit).2
  have HP : Hid (∀ p, R t p = hbF n (atm s m S L) t (t.reds (fun _ => false) (hbF n (atm s m S L))) p) := fun p => by rw [HR.out]; exact hb_eq _ _ t p
  have HKK : Hid (∀ i, i < t.cnt → t.reds (fun _ => false) (hbF n (atm s m S L)) i = R (t.kid i)) := fun i hi => by rw [HR.out]; exact hb_kid hi
  have HPer : Hid (∀ i, Per s m (R (t.kid i))) := fun i => by rw [HR.out, HN.out]; exact hb_per hm (atm_per s m S L) _
  have hc2 : t.cnt ≤ 2 := by
    have : ar t.kind ≤ 2 := by unfold ar; split; omega; split; omega; split <;> omega
    omega
  obtain ⟨i0, hi0, hz0, hz1, hz2⟩ := info_parts Tryd.info34
  have HI : Hid (Tryd.prog.info? 34 = some i0 ∧ i0.zero = some (.slice none 0 0) ∧ i0.size = 1 ∧ i0.bytes = 24) := ⟨hi0, hz0, hz1, hz2⟩
  clear hi0 hz0 hz1 hz2
  have hsm : ((s : Int) + m) = (n : Int) := by have := HN.out; omega
  generalize hrr : t.reds (fun _ => false) (hbF n (atm s m S L)) = rr at *
  unfold hbF at HP
  obtain ⟨u, hu⟩ : ∃ y, y = (w.alloc (.cells #[.int .i64 t.kind, .int .i64 t.num, .slice a t.cnt cap] 24)).alloc (.cells #[.slice sa s sc, .slice la m lc] 27) := ⟨_, rfl⟩
  have hB : Below w.heap.size w u := by rw [hu]; exact below_alloc2 _ _ _
  have hus : u.heap.size = w.heap.size + 1 + 1 := by rw [hu]; simp
  have HFx : Hid (Fx u w.heap.size t a cap sa s sc la m lc) := by rw [hu]; exact hid (fx_new _ _ _ _ _ _ _ _ _ _)
  have HU0 := hid hu
  have hkk : t.kind = 1 := hkd0
  rw [hkd0] at HP har hx3 HU0 ⊢
  clear hkd0
  generalize hnn : t.num = x at *
  generalize hcc : t.cnt = c at *
  generalize hkd : t.kid = kid at *
  have HT : Hid (t.kind = 1 ∧ t.num = x ∧ t.cnt = c) := ⟨hkk, hnn, hcc⟩
  have HX3 := hid hx3
  have HAR := hid har
  have HKid := hid hkid
  have HA := hid ha
  have HIH := hid ih
  have HWk := hid hWk
  have HZ := hid hZ
  have HBu := hid hB
  have f0 := HFx.out.f0
  have f1 := HFx.out.f1
  have f2 := HFx.out.f2
  have g0 := HFx.out.g0
  have g1 := HFx.out.g1
  rw [hkk] at f0
  rw [hnn] at f1
  rw [hcc] at f2
  clear hkk hnn hcc hkd hrr hx3 har hkid ha ih hWk hZ hK hW hfit hu hB
  go_enter Tryd.func15, Tryd.ntmps15
  go_upto_region 1 with fail
  rw [← HU0.out]
  clear HU0
  go_cut [5, 6] from 17 to 26 (fun v5 v6 wc => ∃ nb mb, v5 = .pointer (some ⟨nb, 0, none⟩) ∧ v6 = .pointer (some ⟨mb, 0, none⟩) ∧ Hid (Below u.heap.size u wc ∧ wc.heap.size = u.heap.size + 1 + 1 ∧ nb < wc.heap.size ∧ mb < wc.heap.size ∧ wc.cell? ⟨nb, 0, none⟩ = some (.int .i64 n) ∧ wc.cell? ⟨mb, 0, none⟩ = some (.int .i64 m)))
  case first =>
    have n1 : w.heap.size < u.heap.size := by omega
    have n2 : w.heap.size + 1 < u.heap.size := by omega
    go_region
    · obtain ⟨q1, q2, q3, q4⟩ := two_new u (.int .i64 n) (.int .i64 m) (w.heap.size + 1 + 1) hus
      have HQ := hid (And.intro q1 (And.intro q2 (And.intro q3 q4)))
      clear q1 q2 q3 q4
      go_wp2_with fail
      go_meet
      refine ⟨_, _, rfl, rfl, hid ⟨HQ.out.1, HQ.out.2.1, ?_, ?_, HQ.out.2.2.1, HQ.out.2.2.2⟩⟩
      · have := HQ.out.2.1; omega
      · have := HQ.out.2.1; omega
    · obtain ⟨q1, q2, q3, q4⟩ := two_new u (.int .i64 m) (.int .i64 n) (w.heap.size + 1 + 1) hus
      have HQ := hid (And.intro q1 (And.intro q2 (And.intro q3 q4)))
      clear q1 q2 q3 q4
      go_wp2_with fail
      go_meet
      refine ⟨_, _, rfl, rfl, hid ⟨HQ.out.1, HQ.out.2.1, ?_, ?_, HQ.out.2.2.2, HQ.out.2.2.1⟩⟩
      · have := HQ.out.2.1; omega
      · have := HQ.out.2.1; omega
  obtain ⟨nb, mb, rfl, rfl, HC⟩ := hcut
  have hkb : wc.heap.size = w.heap.size + 1 + 1 + 1 + 1 := by have := HC.out.2.1; omega
  have hnb : nb < wc.heap.size := HC.out.2.2.1
  have hmb : mb < wc.heap.size := HC.out.2.2.2.1
  obtain ⟨w1, hw1⟩ : ∃ y, y = wc.alloc (.cells #[.slice none 0 0] 66) := ⟨_, rfl⟩
  have HW1 := hid hw1
  have HS : Hid (Below w.heap.size w w1 ∧ Tv w1 w.heap.size nb mb t a cap sa s sc la m lc n ∧ Tk w1 wc.heap.size n 0 (fun i => R (kid i)) (.slice none 0 0)) := by
    have hb1 : Below wc.heap.size wc w1 := by rw [hw1]; exact box_below _ _
    have hub := HC.out.1
    have hub1 : Below u.heap.size u w1 := hub.trans (hb1.mono hub.size)
    refine ⟨HBu.out.trans (hub1.mono HBu.out.size), ⟨HFx.out.below hub1, below_cell hb1 (Nat.le_refl _) HC.out.2.2.2.2.1, below_cell hb1 (Nat.le_refl _) HC.out.2.2.2.2.2⟩, ⟨?_, fun _ => 0, World.ownsRow_nil _ _ _ _, fun i hi => by omega⟩⟩
    rw [hw1]
    exact Go.Deep.blk_alloc_new _ _
  obtain ⟨kb, hkbe⟩ : ∃ y, y = wc.heap.size := ⟨_, rfl⟩
  rw [← hkbe] at HS hnb hmb
  have hB1 : w.heap.size + 1 < kb := by omega
  have HKB := hid hkbe
  clear hw1 HC f0 f1 f2 g0 g1 hkb hus
  clear hkbe
  go_wp2
  rw [← HW1.out, ← HKB.out]
  clear HW1 HKB
  go_loopw [8] (fun i wr => ∃ j : Nat, j ≤ c ∧ i = .int .i64 j ∧ ∃ v, Hid (Below w.heap.size w wr ∧ Tv wr w.heap.size nb mb t a cap sa s sc la m lc n ∧ Tk wr kb n j (fun i => R (kid i)) v)) (fun i _ => c - (intOf i).toNat)
  case atStart => exact ⟨0, Nat.zero_le _, rfl, _, HS⟩
  case round =>
    obtain ⟨j, hj, rfl, v, HJ⟩ := hrel
    clear HS
    have f0 := HJ.out.2.1.fx.f0
    have f1 := HJ.out.2.1.fx.f1
    have f2 := HJ.out.2.1.fx.f2
    have g0 := HJ.out.2.1.fx.g0
    have g1 := HJ.out.2.1.fx.g1
    have cn := HJ.out.2.1.cn
    have cm := HJ.out.2.1.cm
    have kv := HJ.out.2.2.cell
    rw [HT.out.1] at f0
    rw [HT.out.2.1] at f1
    rw [HT.out.2.2] at f2
    by_cases hlt : j < c
    · exfalso
      have h := HAR.out
      have e : ar 1 = 0 := by decide
      omega
    · obtain rfl : c = j := by omega
      obtain ⟨ka, kc, rfl, hKb⟩ := HJ.out.2.2.kb
      obtain ⟨wo, hwo⟩ : ∃ y, y = wr := ⟨_, rfl⟩
      rw [← hwo] at f0 f1 f2 g0 g1 cn cm kv hKb HJ ⊢
      clear hwo
      have HB := hid HJ.out.1
      have HWo : Hid (Wd wo sa s la m S L) := HZ.out.below HJ.out.1
      have KC : Hid (∀ z, Below wo.heap.size wo z → ∀ j, j < c → ∀ i : Nat, i ≤ 1000 → Calls Tryd.prog 35 #[.int .i64 j, .int .i64 i, .pointer (some ⟨nb, 0, none⟩), .pointer (some ⟨mb, 0, none⟩), .pointer (some ⟨kb, 0, none⟩)] z fun e w' => e = .returned (.bool (R (kid j) i)) ∧ w' = z) := fun z hz j hj i hi =>
        kidR_any HN.out hn60 hm (below_cell hz (Nat.le_refl _) cn) (below_cell hz (Nat.le_refl _) cm) (below_cell hz (Nat.le_refl _) kv) (hKb.below hz) j hj (HPer.out j) i hi
      have HCell : Hid (∀ z, Below wo.heap.size wo z → z.cell? ⟨w.heap.size, 0, none⟩ = some (.int .i64 1) ∧ z.cell? ⟨w.heap.size, 1, none⟩ = some (.int .i64 x) ∧ z.cell? ⟨w.heap.size + 1, 0, none⟩ = some (.slice sa s sc) ∧ z.cell? ⟨w.heap.size + 1, 1, none⟩ = some (.slice la m lc) ∧ z.cell? ⟨nb, 0, none⟩ = some (.int .i64 n) ∧ z.cell? ⟨mb, 0, none⟩ = some (.int .i64 m)) := fun z hz =>
        ⟨below_cell hz (Nat.le_refl _) f0, below_cell hz (Nat.le_refl _) f1, below_cell hz (Nat.le_refl _) g0, below_cell hz (Nat.le_refl _) g1, below_cell hz (Nat.le_refl _) cn, below_cell hz (Nat.le_refl _) cm⟩
      have hmk := run_make_row' (P := Tryd.prog) 34 4 (.bool false) 1 Tryd.underlying34 Tryd.info4 rfl .i64 .i64 n (by omega) (by omega)
      clear hlt hj hKb HJ HIH HKid HWk HA f0 f1 g0 g1 cm kv HBu HFx
      clear HT
      · have hcn : c = 0 := by
          have h := HAR.out
          have e : ar 1 = 0 := by decide
          omega
        have HC := hid hcn
        clear hcn HAR
        have HV : Hid (∀ p, R t p = true) := fun p => by have h := HP.out p; simpa using h
        clear HP HKK
        go_wp2
        clear hmk cn f2
        go_loopw [11] (fun i wr => ∃ p : Nat, p ≤ n ∧ i = .int .i64 p ∧ Hid (Ow wo wr n (R t) p false)) (fun i _ => n - (intOf i).toNat)
        case atStart => exact ⟨0, Nat.zero_le _, rfl, hid (ow_start _ _ _)⟩
        case round =>
          obtain ⟨p, hp, rfl, HO⟩ := hrel
          obtain ⟨f0, f1, g0, g1, cn, cm⟩ := HCell.out wr HO.out.below
          by_cases hlt : p < n
          · have hpz : (p : Int) < n := by omega
            have hc0 := HO.out.cell hlt
            have hz0 := HO.out.frozen
            go_wp2
            go_roundw
            case rel => exact ⟨p + 1, by omega, by go_num, hid ((HO.out.set true).next (HV.out p).symm)⟩
            case measure => simp [intOf]; omega
          · obtain rfl : p = n := by omega
            go_wp2
            go_ret
            exact ⟨wo.heap.size, rfl, HB.out.size, HO.out.done, HB.out.trans (HO.out.below.mono HB.out.size)⟩

end Go.Proofs.YtejombhfkobcbaaDoor
