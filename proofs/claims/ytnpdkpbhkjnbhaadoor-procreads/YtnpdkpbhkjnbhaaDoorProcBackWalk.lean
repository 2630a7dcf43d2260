/- The law ProcBack, walked. -/
import Derived.Test.YtnpdkpbhkjnbhaaDoorPrintW
import Derived.Test.YtnpdkpbhkjnbhaaDoorBack
import Derived.Test.YtnpdkpbhkjnbhaaDoorSame
import Derived.Test.YtnpdkpbhkjnbhaaDoorProc8
namespace Go.Proofs.YtnpdkpbhkjnbhaaDoor
open Go.RowKit

theorem txF_small {N F : Nat} {M : Nat → ByteArray} {K A B : Nat → Int} (h : ChkIs N F M K A B 0) : (txF N M K A B F).length ≤ 4096 := by
  obtain ⟨h1, h2, h3, _⟩ := chk_zero h
  have hE := endsOk_all h3
  have := txF_len (K := K) (M := M) (N := N) (A := A) (B := B) (fun i hi => nameOk_size (nodes_names h2 i hi).1) F (fun i hi => by have := hE i hi; omega)
  omega

/-- What Parse answers to what is printed of a right process. -/
theorem back_parse {N F : Nat} {M : Nat → ByteArray} {K A B : Nat → Int} {e : Ending} {w : World} (h : ChkIs N F M K A B 0) (hp : PaIs (txF N M K A B F) e w) :
    ∃ na nc fa fc, e = .returned (.tuple #[.agg #[.slice na N nc, .slice fa F fc], .int .i64 0, .int .i64 0]) ∧ Nds w na N M K ∧ Fls w fa F A B := by
  obtain ⟨hg, hM, hA⟩ := back_lists h
  have hs := txF_small h
  have hst : st (txF N M K A B F) (N + F) = some ([], (nsOf N M K, fsOf F M A B)) := by
    have := st_tx F (nsOf N M K, fsOf F M A B) (fsOf_len _ _ _ _) hg []
    rw [List.append_nil, ← txF_flat, nsOf_len] at this
    exact this
  rcases hp with ⟨h1, _⟩ | ⟨_, ⟨k, r, x, h1, h2, h3, _⟩ | ⟨k, x, h1, hc⟩⟩
  · omega
  · have := (st_one hst h1 h3).2
    cases this
    exact absurd rfl h2
  · obtain ⟨_, hx⟩ := st_one hst h1 (st_end h1)
    cases hx
    rcases hc with ⟨i, hi, hbad, _⟩ | ⟨_, e0, he0, hc⟩
    · have hi' : i < F := by have := hi; simp only [fsOf_len] at this; exact this
      obtain ⟨_, _, h3, _⟩ := chk_zero h
      have hE := endsOk_all h3 i hi'
      have := hA i hi'
      omega
    · simp only [nsOf_len, fsOf_len] at he0 hc
      have he1 : ChkIs N F M K A B e0 := chk_congr (fun i hi => ⟨(hM i hi).1.symm, (hM i hi).2.symm⟩) (fun i hi => ⟨(hA i hi).1.symm, (hA i hi).2.symm⟩) he0
      have e00 := chk_one h he1
      subst e00
      rcases hc with ⟨hz, _⟩ | ⟨_, na, nc, fa, fc, he, hpr⟩
      · exact absurd rfl hz
      · refine ⟨na, nc, fa, fc, he, ?_, ?_⟩
        · obtain ⟨b, o, ha, hcell⟩ := hpr.nds
          exact ⟨b, o, ha, fun i hi => by rw [(hM i hi).1, (hM i hi).2]; exact hcell i hi⟩
        · obtain ⟨b, o, ha, hcell⟩ := hpr.fls
          exact ⟨b, o, ha, fun i hi => by rw [(hA i hi).1, (hA i hi).2]; exact hcell i hi⟩

theorem straight_text : (txF 3 sMs sKs sAs sBs 2).toArray = #[115, 116, 97, 114, 116, 32, 97, 10, 116, 97, 115, 107, 32, 98, 10, 101, 110, 100, 32, 99, 10, 102, 108, 111, 119, 32, 97, 32, 98, 10, 102, 108, 111, 119, 32, 98, 32, 99, 10] := by decide

set_option maxRecDepth 20000 in
set_option maxHeartbeats 4000000 in
theorem procBack_walk (na fa : Option Addr) (N nc F fc : Nat) (M : Nat → ByteArray) (K A B : Nat → Int) (w : World) (hp : Prc w na N nc fa F M K A B) (hg : Gl w) (hw2 : 2 ≤ w.heap.size) :
    Calls Tryd.prog 4 #[.agg #[.slice na N nc, .slice fa F fc]] w fun e w' => e = .returned (.bool true) ∧ Below w.heap.size w w' := by
  obtain ⟨e0, he⟩ := chk_ex N F M K A B
  have HE : Hid (ChkIs N F M K A B e0) := he
  have HP : Hid (Prc w na N nc fa F M K A B) := hp
  have HG : Hid (Gl w) := hg
  clear he hp hg
  obtain ⟨W, eW⟩ : ∃ x, x = w.alloc (.cells #[.slice na N nc, .slice fa F fc] 25) := ⟨_, rfl⟩
  have HW : Hid (Below w.heap.size w W ∧ W.heap.size = w.heap.size + 1) := by subst eW; exact ⟨box_below _ _, by simp⟩
  have HBx : Hid (∀ w1, Below W.heap.size W w1 → w1.cell? ⟨w.heap.size, 0, none⟩ = some (.slice na N nc) ∧ w1.cell? ⟨w.heap.size, 1, none⟩ = some (.slice fa F fc)) := fun w1 h => by
    have h' : Below (w.heap.size + 1) (w.alloc (.cells #[.slice na N nc, .slice fa F fc] 25)) w1 := by rw [← HW.out.2, ← eW]; exact h
    exact ⟨box_keep h' rfl, box_keep h' rfl⟩
  have HEW : Hid (w.alloc (.cells #[.slice na N nc, .slice fa F fc] 25) = W) := eW.symm
  have HPW : Hid (Prc W na N nc fa F M K A B) := HP.out.below HW.out.1
  have hW2 : 2 ≤ W.heap.size := by have := HW.out.2; omega
  have HGW : Hid (Gl W) := HG.out.below HW.out.1 hw2
  have C1 : Hid (Calls Tryd.prog 12 #[] W fun e w' => (∃ na fa, e = .returned (.agg #[.slice na 3 3, .slice fa 2 2]) ∧ Prc w' na 3 3 fa 2 sMs sKs sAs sBs) ∧ Below W.heap.size W w') := straight_any W
  clear eW
  go_enter Tryd.func4, Tryd.ntmps4
  go_wp2_with fail
  rw [HEW.out]
  refine C1.out.mono ?_
  rintro e w1 ⟨⟨sna, sfa, rfl, hsp⟩, hb1⟩
  have HB1 : Hid (Below W.heap.size W w1) := hb1
  have C2 : Hid (Calls Tryd.prog 8 #[.agg #[.slice sna 3 3, .slice sfa 2 2]] w1 fun e w' => e = .returned (.tuple #[.string ⟨#[115, 116, 97, 114, 116, 32, 97, 10, 116, 97, 115, 107, 32, 98, 10, 101, 110, 100, 32, 99, 10, 102, 108, 111, 119, 32, 97, 32, 98, 10, 102, 108, 111, 119, 32, 98, 32, 99, 10]⟩, .int .i64 0]) ∧ Below w1.heap.size w1 w') := by
    refine (print_any sna sfa 3 3 2 2 sMs sKs sAs sBs 0 w1 hsp straight_chk (HGW.out.below hb1 hW2).kws).mono ?_
    rintro e w' ⟨⟨h, _⟩ | ⟨_, h⟩, hb⟩
    · exact absurd rfl h
    · rw [straight_text] at h
      exact ⟨h, hb⟩
  clear hsp hb1 C1
  go_wp2_with fail
  refine C2.out.mono ?_
  rintro e w2 ⟨rfl, hb2⟩
  have HB2 : Hid (Below W.heap.size W w2) := HB1.out.trans (hb2.mono HB1.out.size)
  obtain ⟨hc0, hc1⟩ := HBx.out w2 HB2.out
  clear hb2 C2 HB1
  have C3 : Hid (Calls Tryd.prog 8 #[.agg #[.slice na N nc, .slice fa F fc]] w2 fun e w' => PrIs N F M K A B e0 e ∧ Below w2.heap.size w2 w') := print_any na fa N nc F fc M K A B e0 w2 (HPW.out.below HB2.out) HE.out (HGW.out.below HB2.out hW2).kws
  go_wp2_with fail
  refine C3.out.mono ?_
  rintro e w3 ⟨hpr, hb3⟩
  have HB3 : Hid (Below W.heap.size W w3) := HB2.out.trans (hb3.mono HB2.out.size)
  clear hb3 C3 HB2 hc0 hc1
  obtain ⟨hc0, hc1⟩ := HBx.out w3 HB3.out
  rcases hpr with ⟨hz, rfl⟩ | ⟨hz, rfl⟩
  · have hz' : (e0 != 0) = true := by rw [bne_iff_ne]; exact hz
    have C4 : Hid (Calls Tryd.prog 13 #[.agg #[.slice na N nc, .slice fa F fc]] w3 fun e w' => e = .returned (.int .i64 e0) ∧ Below w3.heap.size w3 w') := procCheck_any na fa N nc F fc M K A B e0 w3 (HPW.out.below HB3.out) HE.out
    have hee : (e0 == e0) = true := by simp
    clear hz
    go_wp2_with fail
    refine C4.out.mono ?_
    rintro e w4 ⟨rfl, hb4⟩
    have HB4 : Hid (Below w.heap.size w w4) := HW.out.1.trans ((HB3.out.trans (hb4.mono HB3.out.size)).mono HW.out.1.size)
    clear hb4 C4
    go_wp2
    go_ret
    exact ⟨rfl, HB4.out⟩
  · subst hz
    have C4 : Hid (Calls Tryd.prog 9 #[.string ⟨(txF N M K A B F).toArray⟩] w3 fun e w' => (∃ na nc fa fc, e = .returned (.tuple #[.agg #[.slice na N nc, .slice fa F fc], .int .i64 0, .int .i64 0]) ∧ Nds w' na N M K ∧ Fls w' fa F A B) ∧ Below w3.heap.size w3 w') := by
      refine (parse_any (txF N M K A B F) w3 (HGW.out.below HB3.out hW2) (by have := HB3.out.size; omega)).mono ?_
      rintro e w' ⟨h1, h2⟩
      exact ⟨back_parse HE.out h1, h2⟩
    generalize (⟨(txF N M K A B F).toArray⟩ : ByteArray) = tb at *
    go_wp2_with fail
    refine C4.out.mono ?_
    rintro e w4 ⟨⟨na', nc', fa', fc', rfl, hn', hf'⟩, hb4⟩
    have HB4 : Hid (Below W.heap.size W w4) := HB3.out.trans (hb4.mono HB3.out.size)
    have HNF : Hid (Nds w4 na' N M K ∧ Fls w4 fa' F A B) := ⟨hn', hf'⟩
    clear hb4 C4 hn' hf' hc0 hc1
    obtain ⟨V, eV⟩ : ∃ v, v = w4.alloc (.cells #[.slice na' N nc', .slice fa' F fc'] 25) := ⟨_, rfl⟩
    have HV : Hid (Below w4.heap.size w4 V ∧ V.cell? ⟨w4.heap.size, 0, none⟩ = some (.slice na' N nc') ∧ V.cell? ⟨w4.heap.size, 1, none⟩ = some (.slice fa' F fc')) := by subst eV; exact ⟨box_below _ _, cell_of_alloc rfl, cell_of_alloc rfl⟩
    have HBV : Hid (Below W.heap.size W V) := HB4.out.trans (HV.out.1.mono HB4.out.size)
    have hv := HBx.out V HBV.out
    rw [eV] at hv
    obtain ⟨hv0, hv1⟩ := hv
    have HVe : Hid (w4.alloc (.cells #[.slice na' N nc', .slice fa' F fc'] 25) = V) := eV.symm
    have C5 : Hid (Calls Tryd.prog 11 #[.agg #[.slice na N nc, .slice fa F fc], .agg #[.slice na' N nc', .slice fa' F fc']] V fun e w' => e = .returned (.bool true) ∧ Below V.heap.size V w') :=
      sameProc_any na fa na' fa' N nc F fc nc' fc' M K A B V HP.out.nN HP.out.nF ((HPW.out.below HBV.out).nds) (HNF.out.1.below HV.out.1) ((HPW.out.below HBV.out).fls) (HNF.out.2.below HV.out.1)
    clear eV
    go_wp2_with fail
    rw [HVe.out]
    refine C5.out.mono ?_
    rintro e w5 ⟨rfl, hb5⟩
    have HB5 : Hid (Below w.heap.size w w5) := HW.out.1.trans ((HBV.out.trans (hb5.mono HBV.out.size)).mono HW.out.1.size)
    clear hb5 C5
    go_wp2
    go_ret
    exact ⟨rfl, HB5.out⟩

end Go.Proofs.YtnpdkpbhkjnbhaaDoor
