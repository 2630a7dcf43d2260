/-  Nots, Plain, Slim: the program's faces. -/
import Derived.Test.YtmdpbaobihdgkaaGreatDoorABot
/- Both, of whatever it is given. -/
namespace Go.Proofs.YtmdpbaobihdgkaaGreatDoor
open Go.RowKit Go.Shelf Go.Maps
set_option maxHeartbeats 2000000 in
theorem both_bad1 (A B : Ax) (w : World) (hA : Aw w A) (hB : Aw w B) (h0 : chkA A ≠ 0) : Calls Tryz.prog 12 #[A.val, B.val] w fun e w' => BoIs w A B e w' := by
 show Calls Tryz.prog 12 #[.agg #[.slice A.sa A.sn A.sc, .slice A.na A.G A.nc, .slice A.ma A.M A.mc, .slice A.oa A.O A.oc, .slice A.fa A.K A.fc], .agg #[.slice B.sa B.sn B.sc, .slice B.na B.G B.nc, .slice B.ma B.M B.mc, .slice B.oa B.O B.oc, .slice B.fa B.K B.fc]] w _
 obtain ⟨W1, hW1, hb1, hs1, hboA, hboB, hres⟩ := bo_world w A B
 have CA : Hid (Calls Tryz.prog 23 #[.agg #[.slice A.sa A.sn A.sc, .slice A.na A.G A.nc, .slice A.ma A.M A.mc, .slice A.oa A.O A.oc, .slice A.fa A.K A.fc]] W1 fun e w' => e = .returned (.int .i64 (chkA A)) ∧ Below W1.heap.size W1 w') := hid (by exact chkA_any A W1 (hA.below hb1))
 have CB : Hid (∀ z, Below w.heap.size w z → Calls Tryz.prog 23 #[.agg #[.slice B.sa B.sn B.sc, .slice B.na B.G B.nc, .slice B.ma B.M B.mc, .slice B.oa B.O B.oc, .slice B.fa B.K B.fc]] z fun e w' => e = .returned (.int .i64 (chkA B)) ∧ Below z.heap.size z w') := hid (fun z hz => by exact chkA_any B z (hB.below hz))
 have HF : Hid (∀ X, Below w.heap.size w X → BoIs w A B (.returned (.tuple #[.agg nil5, .int .i64 (chkA A)])) X) := hid (fun X hX => Or.inl ⟨h0, rfl, hX⟩)
 have HB1 := hid (And.intro hb1 (And.intro hs1 (And.intro hboA (And.intro hboB hres))))
 obtain ⟨q0, q1, q2, q3, q4⟩ := hboA
 obtain ⟨er, her⟩ : ∃ er, chkA A = er := ⟨_, rfl⟩
 rw [her] at CA HF h0
 have g0 : (er != 0) = true := by simp [h0]
 clear her h0
 clear hA hB hb1 hs1 hboB hres
 go_enter Tryz.func12, Tryz.ntmps12
 go_wp2_with fail
 refine CA.out.mono ?_
 rintro e w2 ⟨rfl, hb2⟩
 have HL2 : Hid (Below w.heap.size w w2) := hid (HB1.out.1.trans (hb2.mono HB1.out.1.size))
 have HBA2 := hid (HB1.out.2.2.1.below hb2)
 have HBB2 := hid (HB1.out.2.2.2.1.below hb2)
 have HRE2 : Hid (w2.heap[w.heap.size + 1 + 1]? = some (.cells nil5 32)) := hid ((hb2.block _ (jq4.1 HB1.out.2.2.2.2).1).trans HB1.out.2.2.2.2)
 clear hb2 q0 q1 q2 q3 q4 CA
 have hres := HRE2.out
 obtain ⟨⟨y0, y1, y2, y3, y4⟩, yf⟩ := five_cells hres
 have f0 := yf 0
 have f1 := yf 1
 have f2 := yf 2
 have f3 := yf 3
 have f4 := yf 4
 obtain ⟨X, hX⟩ : ∃ X, (((((w2.setCell ⟨w.heap.size + 1 + 1, 0, none⟩ (.slice none 0 0)).setCell ⟨w.heap.size + 1 + 1, 1, none⟩ (.slice none 0 0)).setCell ⟨w.heap.size + 1 + 1, 2, none⟩ (.slice none 0 0)).setCell ⟨w.heap.size + 1 + 1, 3, none⟩ (.slice none 0 0)).setCell ⟨w.heap.size + 1 + 1, 4, none⟩ (.slice none 0 0)) = X := ⟨_, rfl⟩
 obtain ⟨hx5, hxb⟩ := set5 _ _ _ _ _ hres hX
 obtain ⟨⟨k0, k1, k2, k3, k4⟩, _⟩ := five_cells hx5
 have HXX := hid (HF.out X (HL2.out.trans (hxb.below (by omega) HL2.out.size)))
 clear yf hxb hx5 hres
 go_wp2
 refine ⟨rfl, .tuple #[.agg nil5, .int .i64 er], by simp [results, Tryz.f12, go_sem, k0, k1, k2, k3, k4], ?_⟩
 exact HXX.out
set_option maxHeartbeats 2000000 in
theorem both_bad2 (A B : Ax) (w : World) (hA : Aw w A) (hB : Aw w B) (hA0 : chkA A = 0) (h0 : chkA B ≠ 0) : Calls Tryz.prog 12 #[A.val, B.val] w fun e w' => BoIs w A B e w' := by
 show Calls Tryz.prog 12 #[.agg #[.slice A.sa A.sn A.sc, .slice A.na A.G A.nc, .slice A.ma A.M A.mc, .slice A.oa A.O A.oc, .slice A.fa A.K A.fc], .agg #[.slice B.sa B.sn B.sc, .slice B.na B.G B.nc, .slice B.ma B.M B.mc, .slice B.oa B.O B.oc, .slice B.fa B.K B.fc]] w _
 obtain ⟨W1, hW1, hb1, hs1, hboA, hboB, hres⟩ := bo_world w A B
 have CA : Hid (Calls Tryz.prog 23 #[.agg #[.slice A.sa A.sn A.sc, .slice A.na A.G A.nc, .slice A.ma A.M A.mc, .slice A.oa A.O A.oc, .slice A.fa A.K A.fc]] W1 fun e w' => e = .returned (.int .i64 0) ∧ Below W1.heap.size W1 w') := hid (by rw [← hA0]; exact chkA_any A W1 (hA.below hb1))
 have CB : Hid (∀ z, Below w.heap.size w z → Calls Tryz.prog 23 #[.agg #[.slice B.sa B.sn B.sc, .slice B.na B.G B.nc, .slice B.ma B.M B.mc, .slice B.oa B.O B.oc, .slice B.fa B.K B.fc]] z fun e w' => e = .returned (.int .i64 (chkA B)) ∧ Below z.heap.size z w') := hid (fun z hz => by exact chkA_any B z (hB.below hz))
 have HF : Hid (∀ X, Below w.heap.size w X → BoIs w A B (.returned (.tuple #[.agg nil5, .int .i64 (chkA B)])) X) := hid (fun X hX => Or.inr (Or.inl ⟨hA0, h0, rfl, hX⟩))
 have HB1 := hid (And.intro hb1 (And.intro hs1 (And.intro hboA (And.intro hboB hres))))
 obtain ⟨q0, q1, q2, q3, q4⟩ := hboA
 obtain ⟨er, her⟩ : ∃ er, chkA B = er := ⟨_, rfl⟩
 rw [her] at CB HF h0
 have g0 : (er != 0) = true := by simp [h0]
 clear her h0
 clear hA hB hb1 hs1 hboB hres
 go_enter Tryz.func12, Tryz.ntmps12
 go_wp2_with fail
 refine CA.out.mono ?_
 rintro e w2 ⟨rfl, hb2⟩
 have HL2 : Hid (Below w.heap.size w w2) := hid (HB1.out.1.trans (hb2.mono HB1.out.1.size))
 have HBA2 := hid (HB1.out.2.2.1.below hb2)
 have HBB2 := hid (HB1.out.2.2.2.1.below hb2)
 have HRE2 : Hid (w2.heap[w.heap.size + 1 + 1]? = some (.cells nil5 32)) := hid ((hb2.block _ (jq4.1 HB1.out.2.2.2.2).1).trans HB1.out.2.2.2.2)
 clear hb2 q0 q1 q2 q3 q4 CA
 obtain ⟨r0, r1, r2, r3, r4⟩ := HBB2.out
 go_wp2_with fail
 refine (CB.out w2 HL2.out).mono ?_
 rintro e w3 ⟨rfl, hb3⟩
 have HL3 : Hid (Below w.heap.size w w3) := hid (HL2.out.trans (hb3.mono HL2.out.size))
 have HBA3 := hid (HBA2.out.below hb3)
 have HBB3 := hid (HBB2.out.below hb3)
 have HRE3 : Hid (w3.heap[w.heap.size + 1 + 1]? = some (.cells nil5 32)) := hid ((hb3.block _ (jq4.1 HRE2.out).1).trans HRE2.out)
 clear hb3 r0 r1 r2 r3 r4 CB
 have hres := HRE3.out
 obtain ⟨⟨y0, y1, y2, y3, y4⟩, yf⟩ := five_cells hres
 have f0 := yf 0
 have f1 := yf 1
 have f2 := yf 2
 have f3 := yf 3
 have f4 := yf 4
 obtain ⟨X, hX⟩ : ∃ X, (((((w3.setCell ⟨w.heap.size + 1 + 1, 0, none⟩ (.slice none 0 0)).setCell ⟨w.heap.size + 1 + 1, 1, none⟩ (.slice none 0 0)).setCell ⟨w.heap.size + 1 + 1, 2, none⟩ (.slice none 0 0)).setCell ⟨w.heap.size + 1 + 1, 3, none⟩ (.slice none 0 0)).setCell ⟨w.heap.size + 1 + 1, 4, none⟩ (.slice none 0 0)) = X := ⟨_, rfl⟩
 obtain ⟨hx5, hxb⟩ := set5 _ _ _ _ _ hres hX
 obtain ⟨⟨k0, k1, k2, k3, k4⟩, _⟩ := five_cells hx5
 have HXX := hid (HF.out X (HL3.out.trans (hxb.below (by omega) HL3.out.size)))
 clear yf hxb hx5 hres
 go_wp2
 refine ⟨rfl, .tuple #[.agg nil5, .int .i64 er], by simp [results, Tryz.f12, go_sem, k0, k1, k2, k3, k4], ?_⟩
 exact HXX.out
set_option maxHeartbeats 2000000 in
theorem both_bad3 (A B : Ax) (w : World) (hA : Aw w A) (hB : Aw w B) (hA0 : chkA A = 0) (hB0 : chkA B = 0) (h0 : 80 < A.K + B.K) : Calls Tryz.prog 12 #[A.val, B.val] w fun e w' => BoIs w A B e w' := by
 show Calls Tryz.prog 12 #[.agg #[.slice A.sa A.sn A.sc, .slice A.na A.G A.nc, .slice A.ma A.M A.mc, .slice A.oa A.O A.oc, .slice A.fa A.K A.fc], .agg #[.slice B.sa B.sn B.sc, .slice B.na B.G B.nc, .slice B.ma B.M B.mc, .slice B.oa B.O B.oc, .slice B.fa B.K B.fc]] w _
 obtain ⟨W1, hW1, hb1, hs1, hboA, hboB, hres⟩ := bo_world w A B
 have CA : Hid (Calls Tryz.prog 23 #[.agg #[.slice A.sa A.sn A.sc, .slice A.na A.G A.nc, .slice A.ma A.M A.mc, .slice A.oa A.O A.oc, .slice A.fa A.K A.fc]] W1 fun e w' => e = .returned (.int .i64 0) ∧ Below W1.heap.size W1 w') := hid (by rw [← hA0]; exact chkA_any A W1 (hA.below hb1))
 have CB : Hid (∀ z, Below w.heap.size w z → Calls Tryz.prog 23 #[.agg #[.slice B.sa B.sn B.sc, .slice B.na B.G B.nc, .slice B.ma B.M B.mc, .slice B.oa B.O B.oc, .slice B.fa B.K B.fc]] z fun e w' => e = .returned (.int .i64 0) ∧ Below z.heap.size z w') := hid (fun z hz => by rw [← hB0]; exact chkA_any B z (hB.below hz))
 have HF : Hid (∀ X, Below w.heap.size w X → BoIs w A B (.returned (.tuple #[.agg nil5, .int .i64 2])) X) := hid (fun X hX => Or.inr (Or.inr (Or.inl ⟨hA0, hB0, Or.inl h0, rfl, hX⟩)))
 have HB1 := hid (And.intro hb1 (And.intro hs1 (And.intro hboA (And.intro hboB hres))))
 obtain ⟨q0, q1, q2, q3, q4⟩ := hboA
 have hKA : A.K ≤ 80 := (chkA_ok hA0).2.1
 have hKB : B.K ≤ 80 := (chkA_ok hB0).2.1
 have hK2 : (80 : Int) < (A.K : Nat) + (B.K : Nat) := by omega
 clear hA hB hb1 hs1 hboB hres
 go_enter Tryz.func12, Tryz.ntmps12
 go_wp2_with fail
 refine CA.out.mono ?_
 rintro e w2 ⟨rfl, hb2⟩
 have HL2 : Hid (Below w.heap.size w w2) := hid (HB1.out.1.trans (hb2.mono HB1.out.1.size))
 have HBA2 := hid (HB1.out.2.2.1.below hb2)
 have HBB2 := hid (HB1.out.2.2.2.1.below hb2)
 have HRE2 : Hid (w2.heap[w.heap.size + 1 + 1]? = some (.cells nil5 32)) := hid ((hb2.block _ (jq4.1 HB1.out.2.2.2.2).1).trans HB1.out.2.2.2.2)
 clear hb2 q0 q1 q2 q3 q4 CA
 obtain ⟨r0, r1, r2, r3, r4⟩ := HBB2.out
 go_wp2_with fail
 refine (CB.out w2 HL2.out).mono ?_
 rintro e w3 ⟨rfl, hb3⟩
 have HL3 : Hid (Below w.heap.size w w3) := hid (HL2.out.trans (hb3.mono HL2.out.size))
 have HBA3 := hid (HBA2.out.below hb3)
 have HBB3 := hid (HBB2.out.below hb3)
 have HRE3 : Hid (w3.heap[w.heap.size + 1 + 1]? = some (.cells nil5 32)) := hid ((hb3.block _ (jq4.1 HRE2.out).1).trans HRE2.out)
 clear hb3 r0 r1 r2 r3 r4 CB
 have s4 := HBA3.out.r4
 have s5 := HBB3.out.r4
 have hres := HRE3.out
 obtain ⟨⟨y0, y1, y2, y3, y4⟩, yf⟩ := five_cells hres
 have f0 := yf 0
 have f1 := yf 1
 have f2 := yf 2
 have f3 := yf 3
 have f4 := yf 4
 obtain ⟨X, hX⟩ : ∃ X, (((((w3.setCell ⟨w.heap.size + 1 + 1, 0, none⟩ (.slice none 0 0)).setCell ⟨w.heap.size + 1 + 1, 1, none⟩ (.slice none 0 0)).setCell ⟨w.heap.size + 1 + 1, 2, none⟩ (.slice none 0 0)).setCell ⟨w.heap.size + 1 + 1, 3, none⟩ (.slice none 0 0)).setCell ⟨w.heap.size + 1 + 1, 4, none⟩ (.slice none 0 0)) = X := ⟨_, rfl⟩
 obtain ⟨hx5, hxb⟩ := set5 _ _ _ _ _ hres hX
 obtain ⟨⟨k0, k1, k2, k3, k4⟩, _⟩ := five_cells hx5
 have HXX := hid (HF.out X (HL3.out.trans (hxb.below (by omega) HL3.out.size)))
 clear yf hxb hx5 hres
 go_wp2
 refine ⟨rfl, .tuple #[.agg nil5, .int .i64 2], by simp [results, Tryz.f12, go_sem, k0, k1, k2, k3, k4], ?_⟩
 exact HXX.out
theorem both_any (A B : Ax) (w : World) (hA : Aw w A) (hB : Aw w B) (hT : Tb w) : Calls Tryz.prog 12 #[A.val, B.val] w fun e w' => BoIs w A B e w' := by
 by_cases h1 : chkA A = 0
 ·by_cases h2 : chkA B = 0
  ·by_cases h3 : 80 < A.K + B.K
   ·exact both_bad3 A B w hA hB h1 h2 h3
   ·exact both_ok A B w hA hB hT h1 h2 h3
  ·exact both_bad2 A B w hA hB h1 h2
 ·exact both_bad1 A B w hA hB h1
end Go.Proofs.YtmdpbaobihdgkaaGreatDoor
namespace Go.Proofs.YtmdpbaobihdgkaaGreatDoor
open Go.RowKit
theorem results_cell_tmp1 {P : Program} {fn : Func} {p u : Tmp} {ty : TypeId} (h : fn.results = #[.cell p ty, .tmp u]) (tmps : Array Value) (w : World) (g : Nat) (t : TypeId) (cs : Array Value) (fr : Nat × Nat) (d : TypeDesc)
  (hp : tmps.getD p undef = .pointer (some ⟨g, 0, none⟩)) (hg : w.heap[g]? = some (.cells cs t fr))
  (hu : P.underlying ty = some d) (hd : (match d with | .struct _ | .array _ _ => true | _ => false) = true) (hi : (P.info? ty).map (·.size) = some cs.size) :
  (results fn tmps).run P w = .ok (.tuple #[.agg cs, tmps.getD u undef]) w := by
 have hp' : tmps[p]?.getD undef = .pointer (some ⟨g, 0, none⟩) := by simpa using hp
 simp [results, h, hp', asAddr, run_loadVar_row w g t ty cs fr d hg hu hd hi]
def cgv (t F : Fml) : Fml × Int := if (chk t 1 0).1 = 0 then (if (chk F 1 0).1 = 0 then (F, 0) else (nd 0 0, (chk F 1 0).1)) else (nd 0 0, (chk t 1 0).1)
theorem cgv_bad {t F : Fml} (h : (chk t 1 0).1 ≠ 0) : cgv t F = (nd 0 0, (chk t 1 0).1) := if_neg h
theorem cgv_bad2 {t F : Fml} (h : (chk t 1 0).1 = 0) (h2 : (chk F 1 0).1 ≠ 0) : cgv t F = (nd 0 0, (chk F 1 0).1) := by rw [cgv, if_pos h, if_neg h2]
theorem cgv_ok {t F : Fml} (h : (chk t 1 0).1 = 0) (h2 : (chk F 1 0).1 = 0) : cgv t F = (F, 0) := by rw [cgv, if_pos h, if_pos h2]
def Cg (g : Fml × Int) (w : World) (e : Ending) (w' : World) : Prop := ∃ (a : Option Addr) (cap : Nat), e = .returned (.tuple #[.agg #[.int .i64 g.1.kind, .int .i64 g.1.num, .slice a g.1.cnt cap], .int .i64 g.2]) ∧ Kn w.heap.size w' g.1 a ∧ Below w.heap.size w w'
set_option maxHeartbeats 4000000 in
theorem changed29 {t F : Fml} (a : Option Addr) (cap : Nat) (w : World) (hkc : kcAt w) (hk : Kds w t a) (hc : t.cnt ≤ 9223372036854775807) (hF : (chk t 1 0).1 = 0 → F.cnt ≤ 9223372036854775807)
  (hf : (chk t 1 0).1 = 0 → ∀ z, Below w.heap.size w z → Calls Tryz.prog 42 #[.agg #[.int .i64 t.kind, .int .i64 t.num, .slice a t.cnt cap]] z fun e w' => Nk z.heap.size z F e w') :
  Calls Tryz.prog 41 #[.agg #[.int .i64 t.kind, .int .i64 t.num, .slice a t.cnt cap], .func (.func 42) #[] #[]] w fun e w' => Cg (cgv t F) w e w' := by
 obtain ⟨u, hu⟩ : ∃ y, y = (w.alloc (.cells #[.int .i64 t.kind, .int .i64 t.num, .slice a t.cnt cap] 24)).alloc (.cells #[.int .i64 0, .int .i64 0, .slice none 0 0] 24) := ⟨_, rfl⟩
 obtain ⟨hs, hB, hT1, hT2⟩ := two_new w _ _ _ _ hu
 have HX : Hid (u.heap.size = w.heap.size + 1 + 1 ∧ Below w.heap.size w u ∧ Tri u w.heap.size (.int .i64 t.kind) (.int .i64 t.num) (.slice a t.cnt cap) ∧ Tri u (w.heap.size + 1) (.int .i64 0) (.int .i64 0) (.slice none 0 0)) := ⟨hs, hB, hT1, hT2⟩
 have C := hid (check_any t a cap u (hkc.below hB hkc.pos) (hk.below hB) hc)
 have HU := hid hu
 have HF := hid hf
 have HKC := hid hkc
 have HFC := hid hF
 clear hu hs hB hT1 hT2 hk hc hf hkc hF
 by_cases q : (chk t 1 0).1 = 0
 ·have HQ := hid q
  rw [q] at C
  go_enter Tryz.func41, Tryz.ntmps41
  go_wp2_with fail
  rw [← HU.out]
  refine C.out.mono ?_
  rintro e w1 ⟨rfl, hb1⟩
  obtain ⟨⟨v0, v1, v2⟩, -⟩ := tri_cells (HX.out.2.2.1.below hb1)
  have HB1 : Hid (Below u.heap.size u w1) := hb1
  have C2 := hid (HF.out q w1 (HX.out.2.1.trans (hb1.mono HX.out.2.1.size)))
  have HE1 := hid (cgv_bad2 (t := t) (F := F) q)
  have HE2 := hid (cgv_ok (t := t) (F := F) q)
  have hFc := HFC.out q
  clear hb1 C HU HF q HFC
  go_wp2_with fail
  refine C2.out.mono ?_
  rintro e w2 ⟨a2, c2, rfl, hk2, hb2⟩
  obtain ⟨w3, hw3⟩ : ∃ y, y = w2.alloc (.cells #[.int .i64 F.kind, .int .i64 F.num, .slice a2 F.cnt c2] 24) := ⟨_, rfl⟩
  have hb3 : Below w2.heap.size w2 w3 := by rw [hw3]; exact box_below _ _
  have hx3 : Tri w3 w2.heap.size (.int .i64 F.kind) (.int .i64 F.num) (.slice a2 F.cnt c2) := by rw [hw3]; exact tri_new _ _ _ _
  have hbu3 := (HB1.out.trans (hb2.mono HB1.out.size)).trans (hb3.mono (HB1.out.trans (hb2.mono HB1.out.size)).size)
  have hbw3 := HX.out.2.1.trans (hbu3.mono HX.out.2.1.size)
  have C3 := hid (check_any F a2 c2 w3 (HKC.out.below hbw3 HKC.out.pos) (hk2.below hb3).out hFc)
  have H3 : Hid (Kn w1.heap.size w3 F a2 ∧ Tri w3 w2.heap.size (.int .i64 F.kind) (.int .i64 F.num) (.slice a2 F.cnt c2) ∧ Below u.heap.size u w3) := ⟨hk2.below hb3, hx3, hbu3⟩
  have HW3 := hid hw3
  clear hk2 hb2 hw3 hb3 hx3 hbu3 hbw3 C2 v0 v1 v2
  by_cases q2 : (chk F 1 0).1 = 0
  ·rw [q2] at C3
   have HEq := hid (HE2.out q2)
   clear HE1 HE2 q2
   go_wp2_with fail
   rw [← HW3.out]
   refine C3.out.mono ?_
   rintro e w4 ⟨rfl, hb4⟩
   have hbu4 := H3.out.2.2.trans (hb4.mono H3.out.2.2.size)
   have hT4 := HX.out.2.2.2.below hbu4
   obtain ⟨⟨v0, v1, v2⟩, -⟩ := tri_cells (H3.out.2.1.below hb4)
   obtain ⟨⟨r0, r1, r2⟩, z0, z1, z2⟩ := tri_cells hT4
   have hlt := hT4.lt
   have H4 : Hid (Kn w1.heap.size w4 F a2 ∧ Tri w4 (w.heap.size + 1) (.int .i64 0) (.int .i64 0) (.slice none 0 0) ∧ Below w.heap.size w w4) := ⟨H3.out.1.below hb4, hT4, HX.out.2.1.trans (hbu4.mono HX.out.2.1.size)⟩
   clear hb4 hbu4 hT4 C3 HW3
   go_wp2
   (try simp only [Exit.inBlock, Exit.then])
   refine bodyPost_ret (results_cell_tmp1 rfl _ _ (w.heap.size + 1) 24 #[.int .i64 F.kind, .int .i64 F.num, .slice a2 F.cnt c2] (0, 0) _ rfl (tri_set H4.out.2.1 _ _ _) Tryz.underlying24 rfl (by kernel_rfl)) rfl ?_
   rw [HEq.out]
   have hsz := HB1.out.size
   have hsu := HX.out.1
   exact ⟨a2, c2, rfl, kn_tri H4.out.1 (by omega) (by omega) _ _ _, below_tri H4.out.2.2 (by omega) _ _ _⟩
  ·have HEq := hid (HE1.out q2)
   generalize (chk F 1 0).1 = r at *
   have hrb : (r != 0) = true := by rw [bne_iff_ne]; exact q2
   clear HE1 HE2 q2
   go_wp2_with fail
   rw [← HW3.out]
   refine C3.out.mono ?_
   rintro e w4 ⟨rfl, hb4⟩
   have hbu4 := H3.out.2.2.trans (hb4.mono H3.out.2.2.size)
   have hT4 := HX.out.2.2.2.below hbu4
   obtain ⟨⟨r0, r1, r2⟩, z0, z1, z2⟩ := tri_cells hT4
   have hlt := hT4.lt
   have H4 : Hid (Tri w4 (w.heap.size + 1) (.int .i64 0) (.int .i64 0) (.slice none 0 0) ∧ Below w.heap.size w w4) := ⟨hT4, HX.out.2.1.trans (hbu4.mono HX.out.2.1.size)⟩
   clear hb4 hbu4 hT4 C3 HW3
   go_wp2
   (try simp only [Exit.inBlock, Exit.then])
   refine bodyPost_ret (results_cell_tmp1 rfl _ _ (w.heap.size + 1) 24 #[.int .i64 0, .int .i64 0, .slice none 0 0] (0, 0) _ rfl (tri_set H4.out.1 _ _ _) Tryz.underlying24 rfl (by kernel_rfl)) rfl ?_
   rw [HEq.out]
   exact ⟨none, 0, rfl, Kn.nd _ _ _, below_tri H4.out.2 (by omega) _ _ _⟩
 ·have HEq := hid (cgv_bad (t := t) (F := F) q)
  generalize cgv t F = cg at *
  generalize (chk t 1 0).1 = r at *
  have hrb : (r != 0) = true := by rw [bne_iff_ne]; exact q
  clear q HF HFC
  go_enter Tryz.func41, Tryz.ntmps41
  go_wp2_with fail
  rw [← HU.out]
  refine C.out.mono ?_
  rintro e w4 ⟨rfl, hb4⟩
  have hT4 := HX.out.2.2.2.below hb4
  obtain ⟨⟨r0, r1, r2⟩, z0, z1, z2⟩ := tri_cells hT4
  have hlt := hT4.lt
  have H4 : Hid (Tri w4 (w.heap.size + 1) (.int .i64 0) (.int .i64 0) (.slice none 0 0) ∧ Below w.heap.size w w4) := ⟨hT4, HX.out.2.1.trans (hb4.mono HX.out.2.1.size)⟩
  clear hb4 hT4 C HU
  go_wp2
  (try simp only [Exit.inBlock, Exit.then])
  refine bodyPost_ret (results_cell_tmp1 rfl _ _ (w.heap.size + 1) 24 #[.int .i64 0, .int .i64 0, .slice none 0 0] (0, 0) _ rfl (tri_set H4.out.1 _ _ _) Tryz.underlying24 rfl (by kernel_rfl)) rfl ?_
  rw [HEq.out]
  exact ⟨none, 0, rfl, Kn.nd _ _ _, below_tri H4.out.2 (by omega) _ _ _⟩
set_option maxHeartbeats 2000000 in
theorem plain9 {t : Fml} (a : Option Addr) (cap : Nat) (w : World) (hkc : kcAt w) (hk : Kds w t a) (hc : t.cnt ≤ 9223372036854775807) :
  Calls Tryz.prog 15 #[.agg #[.int .i64 t.kind, .int .i64 t.num, .slice a t.cnt cap]] w fun e w' => Cg (cgv t (pn t)) w e w' := by
 obtain ⟨u, hu⟩ : ∃ y, y = (w.alloc (.cells #[.int .i64 t.kind, .int .i64 t.num, .slice a t.cnt cap] 24)).alloc (.cells #[.int .i64 0, .int .i64 0, .slice none 0 0] 24) := ⟨_, rfl⟩
 obtain ⟨hs, hB, hT1, hT2⟩ := two_new w _ _ _ _ hu
 have HX : Hid (u.heap.size = w.heap.size + 1 + 1 ∧ Below w.heap.size w u ∧ Tri u (w.heap.size + 1) (.int .i64 0) (.int .i64 0) (.slice none 0 0)) := ⟨hs, hB, hT2⟩
 have C := hid (changed29 (t := t) (F := pn t) a cap u (hkc.below hB hkc.pos) (hk.below hB) hc (fun q => wf_big (pn_wf t (chk_wf t 1 0 q).1)) (fun q z hz => plain_any t (chk_wf t 1 0 q).1 a cap z ((hk.below hB).below hz)))
 have HU := hid hu
 generalize cgv t (pn t) = g at *
 clear hu hs hB hT1 hT2 hk hkc hc 
 go_enter Tryz.func15, Tryz.ntmps15
 go_wp2_with fail
 rw [← HU.out]
 refine C.out.mono ?_
 rintro e w3 ⟨a3, c3, rfl, hk3, hb3⟩
 have hT3 := HX.out.2.2.below hb3
 have H3 : Hid (Kn u.heap.size w3 g.1 a3 ∧ Below w.heap.size w w3 ∧ Tri w3 (w.heap.size + 1) (.int .i64 0) (.int .i64 0) (.slice none 0 0)) := ⟨hk3, HX.out.2.1.trans (hb3.mono HX.out.2.1.size), hT3⟩
 obtain ⟨⟨r0, r1, r2⟩, z0, z1, z2⟩ := tri_cells hT3
 have hlt := hT3.lt
 clear hk3 hb3 hT3 C HU
 go_wp2
 (try simp only [Exit.inBlock, Exit.then])
 refine bodyPost_ret (results_cell_tmp1 rfl _ _ (w.heap.size + 1) 24 #[.int .i64 g.1.kind, .int .i64 g.1.num, .slice a3 g.1.cnt c3] (0, 0) _ rfl (tri_set H3.out.2.2 _ _ _) Tryz.underlying24 rfl (by kernel_rfl)) rfl ?_
 exact ⟨a3, c3, rfl, kn_tri H3.out.1 (by have := HX.out.1; omega) (by have := HX.out.1; omega) _ _ _, below_tri H3.out.2.1 (by omega) _ _ _⟩
end Go.Proofs.YtmdpbaobihdgkaaGreatDoor
