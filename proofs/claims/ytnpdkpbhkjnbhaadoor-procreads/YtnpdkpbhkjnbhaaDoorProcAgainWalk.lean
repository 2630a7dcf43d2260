/- The law ProcAgain, walked. -/
import Derived.Test.YtnpdkpbhkjnbhaaDoorProcBackWalk
namespace Go.Proofs.YtnpdkpbhkjnbhaaDoor
open Go.RowKit

def aMs (i : Nat) : ByteArray := if i = 0 then ⟨#[97]⟩ else ⟨#[98]⟩
def aKs (i : Nat) : Int := if i = 0 then 1 else 2
def aAs (_ : Nat) : Int := 0
def aBs (_ : Nat) : Int := 1

theorem small_nodes : nodesErr aMs aKs 2 = 0 := by
  have n0 : nameOk (aMs 0) = true := by simp [nameOk, aMs, ByteArray.toList_eq]; decide
  have n1 : nameOk (aMs 1) = true := by simp [nameOk, aMs, ByteArray.toList_eq]; decide
  have f0 : fnd 0 aMs (aMs 0) = -1 := fnd_none (fun j hj => by omega)
  have f1 : fnd 1 aMs (aMs 1) = -1 := fnd_none (fun j hj => by
    obtain rfl : j = 0 := by omega
    simp [aMs, ByteArray.toList_eq])
  have e1 : nodesErr aMs aKs 1 = 0 := by rw [nodesErr_next rfl, if_pos ⟨n0, by decide⟩, if_pos f0]
  rw [nodesErr_next e1, if_pos ⟨n1, by decide⟩, if_pos f1]

theorem small_come : allCome 2 1 aKs aAs aBs := by
  have w0 : Wk (fun s => s < 2 ∧ aKs s = 1) (fun x y => ∃ i, i < 1 ∧ aAs i = x ∧ aBs i = y) 0 0 := ⟨by omega, rfl⟩
  have w1 : Wk (fun s => s < 2 ∧ aKs s = 1) (fun x y => ∃ i, i < 1 ∧ aAs i = x ∧ aBs i = y) 1 1 := ⟨0, w0, 0, by omega, rfl, rfl⟩
  intro x hx
  match x, hx with
  | 0, _ => exact ⟨0, w0⟩
  | 1, _ => exact ⟨1, w1⟩

theorem small_chk : ChkIs 2 1 aMs aKs aAs aBs 0 :=
  Or.inr ⟨⟨by omega, by omega⟩, Or.inr ⟨small_nodes, Or.inr ⟨⟨by decide, by decide, by decide⟩, Or.inr ⟨small_come, rfl⟩⟩⟩⟩

theorem small_text : (⟨#[115, 116, 97, 114, 116, 32, 97, 10, 101, 110, 100, 32, 98, 10, 102, 108, 111, 119, 32, 97, 32, 98, 10]⟩ : ByteArray) = byt (txF 2 aMs aKs aAs aBs 1) := by decide

/-- What Parse answers, told by what the law makes of it. -/
theorem pa_told {s : List UInt8} {e : Ending} {w : World} (h : PaIs s e w) :
    (∃ at_ f : Int, 0 ≤ at_ ∧ f ≠ 0 ∧ e = noProc at_ f) ∨ ∃ x : Dft, s = tx x ∧ (∀ j, j < x.2.length → jA x j ≠ -1 ∧ jB x j ≠ -1) ∧ ChkIs x.1.length x.2.length (mM x.1) (mK x.1) (jA x) (jB x) 0 ∧
      ∃ na nc fa fc, e = .returned (.tuple #[.agg #[.slice na x.1.length nc, .slice fa x.2.length fc], .int .i64 0, .int .i64 0]) ∧ Prc w na x.1.length nc fa x.2.length (mM x.1) (mK x.1) (jA x) (jB x) := by
  rcases h with ⟨_, rfl⟩ | ⟨_, ⟨k, r, x, _, _, _, rfl⟩ | ⟨k, x, hst, ⟨i, _, _, _, rfl⟩ | ⟨hall, e0, he0, hc⟩⟩⟩
  · exact Or.inl ⟨0, 2, by omega, by decide, rfl⟩
  · exact Or.inl ⟨_, 3, by omega, by decide, rfl⟩
  · exact Or.inl ⟨_, 4, by omega, by decide, rfl⟩
  · rcases hc with ⟨hz, rfl⟩ | ⟨hz, na, nc, fa, fc, rfl, hp⟩
    · exact Or.inl ⟨0, e0, by omega, hz, rfl⟩
    · subst hz
      have := (st_text hst).2.1
      rw [List.append_nil] at this
      exact Or.inr ⟨x, this, hall, he0, na, nc, fa, fc, rfl, hp⟩

theorem nds_none (w : World) (M : Nat → ByteArray) (K : Nat → Int) : Nds w none 0 M K := ⟨0, 0, fun h => by omega, fun i hi => by omega⟩
theorem fls_none (w : World) (A B : Nat → Int) : Fls w none 0 A B := ⟨0, 0, fun h => by omega, fun i hi => by omega⟩

set_option maxRecDepth 20000 in
set_option maxHeartbeats 4000000 in
theorem procAgain_walk (s : ByteArray) (w : World) (hg : Gl w) (hw2 : 2 ≤ w.heap.size) :
    Calls Tryd.prog 5 #[.string s] w fun e w' => e = .returned (.bool true) ∧ Below w.heap.size w w' := by
  have HG : Hid (Gl w) := hg
  clear hg
  have C1 : Hid (Calls Tryd.prog 9 #[.string ⟨#[115, 116, 97, 114, 116, 32, 97, 10, 101, 110, 100, 32, 98, 10, 102, 108, 111, 119, 32, 97, 32, 98, 10]⟩] w fun e w' => (∃ na nc fa fc, e = .returned (.tuple #[.agg #[.slice na 2 nc, .slice fa 1 fc], .int .i64 0, .int .i64 0])) ∧ Below w.heap.size w w') := by
    rw [small_text]
    refine (parse_any _ w HG.out hw2).mono ?_
    rintro e w' ⟨h1, h2⟩
    obtain ⟨na, nc, fa, fc, he, _⟩ := back_parse small_chk h1
    exact ⟨⟨na, nc, fa, fc, he⟩, h2⟩
  have C2 : Hid (∀ u, Below w.heap.size w u → Calls Tryd.prog 9 #[.string s] u fun e w' => PaIs s.data.toList e w' ∧ Below u.heap.size u w') := fun u hu => parse_any s.data.toList u (HG.out.below hu hw2) (by have := hu.size; omega)
  go_enter Tryd.func5, Tryd.ntmps5
  go_wp2_with fail
  refine C1.out.mono ?_
  rintro e w1 ⟨⟨na1, nc1, fa1, fc1, rfl⟩, hb1⟩
  obtain ⟨U, eU⟩ : ∃ v, v = w1.alloc (.cells #[.slice na1 2 nc1, .slice fa1 1 fc1] 25) := ⟨_, rfl⟩
  have HU : Hid (Below w.heap.size w U) := by subst eU; exact hb1.alloc hb1.size _
  have hu1 : (w1.alloc (.cells #[.slice na1 2 nc1, .slice fa1 1 fc1] 25)).cell? ⟨w1.heap.size, 1, none⟩ = some (.slice fa1 1 fc1) := cell_of_alloc rfl
  have HUe : Hid (w1.alloc (.cells #[.slice na1 2 nc1, .slice fa1 1 fc1] 25) = U) := eU.symm
  clear eU hb1 C1
  go_wp2_with fail
  rw [HUe.out]
  refine (C2.out U HU.out).mono ?_
  rintro e w2 ⟨hpa, hb2⟩
  have HB2 : Hid (Below w.heap.size w w2) := HU.out.trans (hb2.mono HU.out.size)
  clear hb2 C2 hu1
  rcases pa_told hpa with ⟨at_, f, hat, hf, rfl⟩ | ⟨x, hs, hall, hch, na, nc, fa, fc, rfl, hpr⟩
  · have hf' : (f != 0) = true := by rw [bne_iff_ne]; exact hf
    have HV : Hid (Below w.heap.size w (w2.alloc (.cells #[.slice none 0 0, .slice none 0 0] 25))) := HB2.out.alloc HB2.out.size _
    have C3 : Hid (Calls Tryd.prog 11 #[.agg #[.slice none 0 0, .slice none 0 0], .agg #[.slice none 0 0, .slice none 0 0]] (w2.alloc (.cells #[.slice none 0 0, .slice none 0 0] 25)) fun e w' => e = .returned (.bool true) ∧ Below w.heap.size w w') := by
      refine (sameProc_any none none none none 0 0 0 0 0 0 (fun _ => ⟨#[]⟩) (fun _ => 0) (fun _ => 0) (fun _ => 0) _ (by omega) (by omega) (nds_none _ _ _) (nds_none _ _ _) (fls_none _ _ _) (fls_none _ _ _)).mono ?_
      rintro e w' ⟨rfl, h⟩
      exact ⟨rfl, HV.out.trans (h.mono HV.out.size)⟩
    clear hf hpa
    unfold noProc
    go_wp2_with fail
    refine C3.out.mono ?_
    rintro e w3 ⟨rfl, hb3⟩
    have HB3 : Hid (Below w.heap.size w w3) := hb3
    clear hb3 C3
    go_wp2
    go_ret
    exact ⟨rfl, HB3.out⟩
  · have HPr : Hid (Prc w2 na x.1.length nc fa x.2.length (mM x.1) (mK x.1) (jA x) (jB x)) := hpr
    have HCh : Hid (ChkIs x.1.length x.2.length (mM x.1) (mK x.1) (jA x) (jB x) 0) := hch
    have HTx : Hid ((⟨(txF x.1.length (mM x.1) (mK x.1) (jA x) (jB x) x.2.length).toArray⟩ : ByteArray) = s) := by
      show _ = _
      rw [again_text hall, ← hs]
    clear hpa hs hall hch hpr
    generalize hN : x.1.length = N at *
    generalize hF : x.2.length = F at *
    generalize mM x.1 = M at *
    generalize mK x.1 = K at *
    generalize jA x = A at *
    generalize jB x = B at *
    obtain ⟨V, eV⟩ : ∃ v, v = w2.alloc (.cells #[.slice na N nc, .slice fa F fc] 25) := ⟨_, rfl⟩
    have HV : Hid (Below w2.heap.size w2 V ∧ V.cell? ⟨w2.heap.size, 0, none⟩ = some (.slice na N nc) ∧ V.cell? ⟨w2.heap.size, 1, none⟩ = some (.slice fa F fc)) := by subst eV; exact ⟨box_below _ _, cell_of_alloc rfl, cell_of_alloc rfl⟩
    have HVe : Hid (w2.alloc (.cells #[.slice na N nc, .slice fa F fc] 25) = V) := eV.symm
    have HBV : Hid (Below w.heap.size w V) := HB2.out.trans (HV.out.1.mono HB2.out.size)
    clear eV
    have C3 : Hid (Calls Tryd.prog 8 #[.agg #[.slice na N nc, .slice fa F fc]] V fun e w' => e = .returned (.tuple #[.string s, .int .i64 0]) ∧ Below V.heap.size V w') := by
      refine (print_any na fa N nc F fc M K A B 0 V (HPr.out.below HV.out.1) HCh.out (HG.out.below HBV.out hw2).kws).mono ?_
      rintro e w' ⟨⟨h, _⟩ | ⟨_, h⟩, hb⟩
      · exact absurd rfl h
      · rw [HTx.out] at h
        exact ⟨h, hb⟩
    go_wp2_with fail
    rw [HVe.out]
    refine C3.out.mono ?_
    rintro e w3 ⟨rfl, hb3⟩
    have HB3 : Hid (Below w.heap.size w w3) := HBV.out.trans (hb3.mono HBV.out.size)
    have k0 := (hb3.cell (p := ⟨w2.heap.size, 0, none⟩) (World.block_lt_of_cell? _ _ HV.out.2.1)).trans HV.out.2.1
    have k1 := (hb3.cell (p := ⟨w2.heap.size, 1, none⟩) (World.block_lt_of_cell? _ _ HV.out.2.2)).trans HV.out.2.2
    have C4 : Hid (Calls Tryd.prog 13 #[.agg #[.slice na N nc, .slice fa F fc]] w3 fun e w' => e = .returned (.int .i64 0) ∧ Below w3.heap.size w3 w') := procCheck_any na fa N nc F fc M K A B 0 w3 ((HPr.out.below HV.out.1).below hb3) HCh.out
    clear hb3 C3
    go_wp2_with fail
    refine C4.out.mono ?_
    rintro e w4 ⟨rfl, hb4⟩
    have HB4 : Hid (Below w.heap.size w w4) := HB3.out.trans (hb4.mono HB3.out.size)
    clear hb4 C4
    go_wp2
    go_ret
    exact ⟨rfl, HB4.out⟩

end Go.Proofs.YtnpdkpbhkjnbhaaDoor
