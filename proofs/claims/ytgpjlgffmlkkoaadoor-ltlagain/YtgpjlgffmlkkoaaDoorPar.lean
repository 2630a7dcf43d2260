/- Parse. -/
import Derived.Test.YtgpjlgffmlkkoaaDoorRtx
import Derived.Test.YtgpjlgffmlkkoaaDoorNum
import Derived.Test.YtgpjlgffmlkkoaaDoorPlc
import Derived.Test.YtgpjlgffmlkkoaaDoorApt
import Derived.Test.YtgpjlgffmlkkoaaDoorChk2
import Derived.Deep.RegionHeld3
namespace Go.Proofs.YtgpjlgffmlkkoaaDoor
open Go.RowKit

theorem results_cell_tmp3 {P : Program} {fn : Func} {p u v : Tmp} {ty : TypeId} (h : fn.results = #[.cell p ty, .tmp u, .tmp v]) (tmps : Array Value) (w : World) (g : Nat) (t : TypeId) (cs : Array Value) (fr : Nat × Nat) (d : TypeDesc)
    (hp : tmps.getD p undef = .pointer (some ⟨g, 0, none⟩)) (hg : w.heap[g]? = some (.cells cs t fr))
    (hu : P.underlying ty = some d) (hd : (match d with | .struct _ | .array _ _ => true | _ => false) = true) (hi : (P.info? ty).map (·.size) = some cs.size) :
    (results fn tmps).run P w = .ok (.tuple #[.agg cs, tmps.getD u undef, tmps.getD v undef]) w := by
  have hp' : tmps[p]?.getD undef = .pointer (some ⟨g, 0, none⟩) := by simpa using hp
  simp [results, h, hp', asAddr, run_loadVar_row w g t ty cs fr d hg hu hd hi]

/-- All that is wanted of the world to read a text. -/
structure Pst (w : World) (na : Option Addr) (N nc : Nat) (M : Nat → ByteArray) (a1 a2 a3 a5 : Addr) : Prop where
  sta : Sta w na N nc M
  er : Er4 w a1 a2 a3 a5
  g6 : w.cell? ⟨6, 0, none⟩ = some (.iface 120 (.agg #[.pointer (some ⟨7, 52, none⟩)]))

theorem sta_below {w0 w : World} {na : Option Addr} {N nc : Nat} {M : Nat → ByteArray} (h : Sta w0 na N nc M) (hb : Below w0.heap.size w0 w) : Sta w na N nc M :=
  ⟨h.kc.below hb h.four, h.sg.below hb (by have := h.four; omega), h.nms.below hb, h.n1, h.n2⟩

theorem Pst.below {w w' : World} {na : Option Addr} {N nc : Nat} {M : Nat → ByteArray} {a1 a2 a3 a5 : Addr} (h : Pst w na N nc M a1 a2 a3 a5) (hb : Below w.heap.size w w') : Pst w' na N nc M a1 a2 a3 a5 :=
  ⟨sta_below h.sta hb, h.er.below hb, below_cell hb (Nat.le_refl _) h.g6⟩

/-- What is read of a text, too long ones told. -/
def RxIs (N : Nat) (M : Nat → ByteArray) (S : ByteArray) (r : Except (Int × Nat) Fml) : Prop := (300 < S.size ∧ r = .error (2, 0)) ∨ (S.size ≤ 300 ∧ TxIs N M S r)

/-- What Parse makes of it. -/
def pof (S : ByteArray) : Except (Int × Nat) Fml → Except (Int × Nat) Fml
  | .error q => .error q
  | .ok t => if (chk t 1 0).1 = 0 then .ok t else .error ((chk t 1 0).1, S.size)

theorem pof_ok (S : ByteArray) {t : Fml} (h : (chk t 1 0).1 = 0) : pof S (.ok t) = .ok t := if_pos h
theorem pof_bad (S : ByteArray) {t : Fml} (h : ¬ (chk t 1 0).1 = 0) : pof S (.ok t) = .error ((chk t 1 0).1, S.size) := if_neg h

/-- What Parse answers. -/
def PaAns (B : Nat) (r : Except (Int × Nat) Fml) (e : Ending) (w' : World) : Prop :=
  match r with
  | .ok t => ∃ (a : Option Addr) (cap : Nat), e = .returned (.tuple #[.agg #[.int .i64 t.kind, .int .i64 t.num, .slice a t.cnt cap], .int .i64 0, .int .i64 0]) ∧ Kds (hi B w') t a
  | .error (c, p) => e = .returned (.tuple #[.agg #[.int .i64 0, .int .i64 0, .slice none 0 0], .int .i64 (p : Int), .int .i64 c])

theorem tx_code {N : Nat} {M : Nat → ByteArray} {S : ByteArray} {c : Int} {p : Nat} (h : RxIs N M S (.error (c, p))) : c = 2 ∨ c = 3 ∨ c = 4 ∨ c = 5 := by
  rcases h with ⟨_, h⟩ | ⟨_, ⟨c', m, _, _, h1, h2⟩ | ⟨t, _, h2⟩ | ⟨t, s, _, _, _, h2⟩⟩
  · injection h with h; injection h with h _; omega
  · injection h2 with h; injection h with h _; omega
  · cases h2
  · injection h2 with h; injection h with h _
    have := wrg_code N M s
    omega

theorem readText_any {w : World} {na : Option Addr} {N nc : Nat} {M : Nat → ByteArray} {a1 a2 a3 a5 : Addr} (h : Pst w na N nc M a1 a2 a3 a5) (S : ByteArray) :
    Calls Tryd.prog 23 #[.string S, .slice na N nc] w fun e w' => (∃ r, RxIs N M S r ∧ RtAns (.iface 139 (.pointer (some a1))) (.iface 139 (.pointer (some a2))) (.iface 139 (.pointer (some a3))) (.iface 139 (.pointer (some a5))) r e w') ∧ Below w.heap.size w w' := by
  by_cases hS : 300 < S.size
  · refine (readText_large (na := na) (N := N) (nc := nc) h.er.ers S hS).mono fun e w' hh => ⟨⟨.error (2, 0), Or.inl ⟨hS, rfl⟩, 0, 0, none, 0, 0, hh.1⟩, hh.2⟩
  · refine (readText_small h.sta h.er.ers S (by omega)).mono fun e w' hh => ?_
    obtain ⟨⟨r, h1, h2⟩, h3⟩ := hh
    exact ⟨⟨r, Or.inr ⟨by omega, h1⟩, h2⟩, h3⟩

theorem number_any {w : World} {a1 a2 a3 a5 : Addr} (h : Er4 w a1 a2 a3 a5) (c : Int) (hc : c = 2 ∨ c = 3 ∨ c = 4 ∨ c = 5) (p : Int) :
    Calls Tryd.prog 25 #[erV (.iface 139 (.pointer (some a1))) (.iface 139 (.pointer (some a2))) (.iface 139 (.pointer (some a3))) (.iface 139 (.pointer (some a5))) c p] w fun e w' => e = .returned (.int .i64 c) ∧ Below w.heap.size w w' := by
  rcases hc with rfl | rfl | rfl | rfl
  · exact number_large h p
  · exact number_syntax h p
  · exact number_name h p
  · exact number_deep h p

theorem place_er {w : World} {a1 a2 a3 a5 : Addr} (hg6 : w.cell? ⟨6, 0, none⟩ = some (.iface 120 (.agg #[.pointer (some ⟨7, 52, none⟩)]))) (c : Int) (hc : c = 2 ∨ c = 3 ∨ c = 4 ∨ c = 5) (p : Int) :
    Calls Tryd.prog 24 #[erV (.iface 139 (.pointer (some a1))) (.iface 139 (.pointer (some a2))) (.iface 139 (.pointer (some a3))) (.iface 139 (.pointer (some a5))) c p] w fun e w' => e = .returned (.int .i64 p) ∧ Below w.heap.size w w' := by
  rcases hc with rfl | rfl | rfl | rfl
  · exact place_any _ p w hg6
  · exact place_any _ p w hg6
  · exact place_any _ p w hg6
  · exact place_any _ p w hg6

set_option maxHeartbeats 4000000 in
set_option maxRecDepth 100000 in
theorem parse_any {w : World} {na : Option Addr} {N nc : Nat} {M : Nat → ByteArray} {a1 a2 a3 a5 : Addr} (h : Pst w na N nc M a1 a2 a3 a5) (S : ByteArray) :
    Calls Tryd.prog 11 #[.string S, .slice na N nc] w fun e w' => (∃ r, RxIs N M S r ∧ PaAns w.heap.size (pof S r) e w') ∧ Below w.heap.size w w' := by
  obtain ⟨w1, hw1⟩ : ∃ y, y = w.alloc (.cells #[.int .i64 0, .int .i64 0, .slice none 0 0] 24) := ⟨_, rfl⟩
  have hB1 : Below w.heap.size w w1 := by rw [hw1]; exact box_below _ _
  have hT1 : Tri w1 w.heap.size (.int .i64 0) (.int .i64 0) (.slice none 0 0) := by rw [hw1]; exact tri_new _ _ _ _
  have hP1 : Pst w1 na N nc M a1 a2 a3 a5 := h.below hB1
  have C1 := hid (readText_any hP1 S)
  have H1 : Hid (Below w.heap.size w w1 ∧ Tri w1 w.heap.size (.int .i64 0) (.int .i64 0) (.slice none 0 0)) := ⟨hB1, hT1⟩
  have HP := hid h
  have HE := hid hw1
  clear hw1 hB1 hT1 hP1 h
  go_enter Tryd.func11, Tryd.ntmps11
  go_wp2_with fail
  rw [← HE.out]
  refine C1.out.mono ?_
  rintro e w2 ⟨⟨r, hr, hans⟩, hb2⟩
  have H2 : Hid (Below w.heap.size w w2 ∧ Tri w2 w.heap.size (.int .i64 0) (.int .i64 0) (.slice none 0 0)) := ⟨H1.out.1.trans (hb2.mono H1.out.1.size), H1.out.2.below hb2 H1.out.2.lt⟩
  have HR := hid hr
  have hlt2 := H2.out.2.lt
  clear C1 hb2
  cases r with
  | error q =>
    obtain ⟨c, p⟩ := q
    obtain ⟨x, y, a, n, cap, rfl⟩ := hans
    have hc := tx_code hr
    obtain ⟨w3, hw3⟩ : ∃ y', y' = w2.alloc (.cells #[.int .i64 x, .int .i64 y, .slice a n cap] 24) := ⟨_, rfl⟩
    have H3 : Hid (Below w.heap.size w w3 ∧ Tri w3 w.heap.size (.int .i64 0) (.int .i64 0) (.slice none 0 0)) := by
      rw [hw3]
      exact ⟨H2.out.1.alloc H2.out.1.size _, H2.out.2.alloc _⟩
    obtain ⟨ev, hev⟩ : ∃ y', y' = erV (.iface 139 (.pointer (some a1))) (.iface 139 (.pointer (some a2))) (.iface 139 (.pointer (some a3))) (.iface 139 (.pointer (some a5))) c (p : Int) := ⟨_, rfl⟩
    have CN : Hid (∀ u, Below w.heap.size w u → Calls Tryd.prog 25 #[ev] u fun e w' => e = .returned (.int .i64 c) ∧ Below u.heap.size u w') := fun u hu => by rw [hev]; exact number_any (HP.out.below hu).er c hc p
    have CP : Hid (∀ u, Below w.heap.size w u → Calls Tryd.prog 24 #[ev] u fun e w' => e = .returned (.int .i64 p) ∧ Below u.heap.size u w') := fun u hu => by rw [hev]; exact place_er (HP.out.below hu).g6 c hc p
    rw [← hev]
    obtain ⟨ea, hea⟩ : ∃ y', ev = .iface 72 y' := by rw [hev]; exact ⟨_, rfl⟩
    rw [hea] at CN CP
    rw [hea]
    have HE3 := hid hw3
    clear hr hc hw3 hev hea
    go_wp2_with fail
    rw [← HE3.out]
    refine (CP.out w3 H3.out.1).mono ?_
    rintro e w4 ⟨rfl, hb4⟩
    have H4 : Hid (Below w.heap.size w w4 ∧ Tri w4 w.heap.size (.int .i64 0) (.int .i64 0) (.slice none 0 0)) := ⟨H3.out.1.trans (hb4.mono H3.out.1.size), H3.out.2.below hb4 H3.out.2.lt⟩
    clear hb4 CP
    go_wp2_with fail
    refine (CN.out w4 H4.out.1).mono ?_
    rintro e w5 ⟨rfl, hb5⟩
    have H5 : Hid (Below w.heap.size w w5 ∧ Tri w5 w.heap.size (.int .i64 0) (.int .i64 0) (.slice none 0 0)) := ⟨H4.out.1.trans (hb5.mono H4.out.1.size), H4.out.2.below hb5 H4.out.2.lt⟩
    obtain ⟨⟨d0, d1, d2⟩, f0, f1, f2⟩ := tri_cells H5.out.2
    clear hb5 CN
    go_wp2
    (try simp only [Exit.inBlock, Exit.then])
    refine bodyPost_ret (results_cell_tmp3 rfl _ _ w.heap.size 24 #[.int .i64 0, .int .i64 0, .slice none 0 0] (0, 0) _ rfl (tri_set H5.out.2 _ _ _) Tryd.underlying24 rfl (by kernel_rfl)) rfl ?_
    exact ⟨⟨_, HR.out, rfl⟩, below_tri H5.out.1 (Nat.le_refl _) _ _ _⟩
  | ok t =>
    obtain ⟨a, cap, rfl, hk, h2⟩ := hans
    obtain ⟨w3, hw3⟩ : ∃ y', y' = w2.alloc (.cells #[.int .i64 t.kind, .int .i64 t.num, .slice a t.cnt cap] 24) := ⟨_, rfl⟩
    have hk3 : Kds w3 t a := by rw [hw3]; exact hk.below (box_below _ _)
    have hX3 : Tri w3 w2.heap.size (.int .i64 t.kind) (.int .i64 t.num) (.slice a t.cnt cap) := by rw [hw3]; exact tri_new _ _ _ _
    have H3 : Hid (Below w.heap.size w w3 ∧ Tri w3 w.heap.size (.int .i64 0) (.int .i64 0) (.slice none 0 0)) := by
      rw [hw3]
      exact ⟨H2.out.1.alloc H2.out.1.size _, H2.out.2.alloc _⟩
    have CC := hid (check_any t a cap w3 (HP.out.below H3.out.1).sta.kc hk3 (by omega))
    have HX3 : Hid (Tri w3 w2.heap.size (.int .i64 t.kind) (.int .i64 t.num) (.slice a t.cnt cap) ∧ Kds w3 t a) := ⟨hX3, hk3⟩
    have HE3 := hid hw3
    clear hr hk hw3 hk3 hX3 h2
    go_wp2_with fail
    rw [← HE3.out]
    refine CC.out.mono ?_
    rintro e w4 ⟨rfl, hb4⟩
    have H4 : Hid (Below w.heap.size w w4 ∧ Tri w4 w.heap.size (.int .i64 0) (.int .i64 0) (.slice none 0 0) ∧ Tri w4 w2.heap.size (.int .i64 t.kind) (.int .i64 t.num) (.slice a t.cnt cap) ∧ Kds w4 t a) := ⟨H3.out.1.trans (hb4.mono H3.out.1.size), H3.out.2.below hb4 H3.out.2.lt, HX3.out.1.below hb4 HX3.out.1.lt, HX3.out.2.below hb4⟩
    obtain ⟨⟨d0, d1, d2⟩, f0, f1, f2⟩ := tri_cells H4.out.2.1
    obtain ⟨⟨g0, g1, g2⟩, -⟩ := tri_cells H4.out.2.2.1
    clear hb4 CC
    by_cases hz : (chk t 1 0).1 = 0
    · have CA := hid (apart_any t a cap w4 H4.out.2.2.2 (chk_wf t 1 0 hz).1)
      have HZ := hid hz
      rw [hz]
      clear hz
      go_wp2_with fail
      refine CA.out.mono ?_
      rintro e w5 ⟨a', cap', rfl, hk5, hb5⟩
      have hs4 := H4.out.1.size
      have H5 : Hid (Below w.heap.size w w5 ∧ Tri w5 w.heap.size (.int .i64 0) (.int .i64 0) (.slice none 0 0) ∧ Kds (hi w4.heap.size w5) t a') := ⟨H4.out.1.trans (hb5.mono H4.out.1.size), H4.out.2.1.below hb5 H4.out.2.1.lt, hk5⟩
      have hlt4 := H4.out.2.1.lt
      clear d0 d1 d2 f0 f1 f2 g0 g1 g2
      obtain ⟨⟨d0, d1, d2⟩, f0, f1, f2⟩ := tri_cells H5.out.2.1
      clear hb5 CA hk5
      go_wp2
      (try simp only [Exit.inBlock, Exit.then])
      refine bodyPost_ret (results_cell_tmp3 rfl _ _ w.heap.size 24 #[.int .i64 t.kind, .int .i64 t.num, .slice a' t.cnt cap'] (0, 0) _ rfl (tri_set H5.out.2.1 _ _ _) Tryd.underlying24 rfl (by kernel_rfl)) rfl ?_
      refine ⟨⟨_, HR.out, ?_⟩, below_tri H5.out.1 (Nat.le_refl _) _ _ _⟩
      rw [pof_ok S HZ.out]
      exact ⟨a', cap', rfl, kd_mono (kd_keep H5.out.2.2 (fun j h1 h2 => blk_tri (by omega) _ _ _)) hs4⟩
    · have HZ := hid hz
      have hz2 : ((chk t 1 0).1 == 0) = false := by simpa using hz
      generalize hcc : (chk t 1 0).1 = cc at *
      have HC := hid hcc
      clear hz hcc
      go_wp2
      (try simp only [Exit.inBlock, Exit.then])
      refine bodyPost_ret (results_cell_tmp3 rfl _ _ w.heap.size 24 #[.int .i64 0, .int .i64 0, .slice none 0 0] (0, 0) _ rfl (tri_set H4.out.2.1 _ _ _) Tryd.underlying24 rfl (by kernel_rfl)) rfl ?_
      refine ⟨⟨_, HR.out, ?_⟩, below_tri H4.out.1 (Nat.le_refl _) _ _ _⟩
      rw [pof_bad S (by rw [HC.out]; exact HZ.out), HC.out]
      rfl

end Go.Proofs.YtgpjlgffmlkkoaaDoor
