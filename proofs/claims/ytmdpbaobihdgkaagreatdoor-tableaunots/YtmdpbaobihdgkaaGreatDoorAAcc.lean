
import Derived.Test.YtmdpbaobihdgkaaGreatDoorAAutJ
import Derived.Test.YtmdpbaobihdgkaaGreatDoorAChk
/- Accepts. -/
set_option linter.unusedSimpArgs false
namespace Go.Proofs.YtmdpbaobihdgkaaGreatDoor
open Go.RowKit
structure Bo (w : World) (b : Nat) (A : Ax) : Prop where
 r0 : w.cell? ⟨b, 0, none⟩ = some (.slice A.sa A.sn A.sc)
 r1 : w.cell? ⟨b, 1, none⟩ = some (.slice A.na A.G A.nc)
 r2 : w.cell? ⟨b, 2, none⟩ = some (.slice A.ma A.M A.mc)
 r3 : w.cell? ⟨b, 3, none⟩ = some (.slice A.oa A.O A.oc)
 r4 : w.cell? ⟨b, 4, none⟩ = some (.slice A.fa A.K A.fc)
theorem Bo.below {w w' : World} {b : Nat} {A : Ax} (h : Bo w b A) (hb : Below w.heap.size w w') : Bo w' b A :=
 ⟨below_cell hb jq0 h.r0, below_cell hb jq0 h.r1, below_cell hb jq0 h.r2, below_cell hb jq0 h.r3, below_cell hb jq0 h.r4⟩
def erA (A : Ax) (s m : Nat) : Int := if chkA A = 0 then wchk s m else chkA A
def AcIs (A : Ax) (s m : Nat) (S L : Nat → Int) (e : Ending) : Prop := ∃ b, e = .returned (.tuple #[.bool b, .int .i64 (erA A s m)]) ∧ (erA A s m ≠ 0 → b = false) ∧ (erA A s m = 0 → (b = true ↔ (autA A).Acc (ltr s m S L)))
theorem ac_world (w : World) (A : Ax) (wsa : Option Addr) (s wsc : Nat) (wla : Option Addr) (m wlc : Nat) : ∃ W, (w.alloc (.cells #[.slice A.sa A.sn A.sc, .slice A.na A.G A.nc, .slice A.ma A.M A.mc, .slice A.oa A.O A.oc, .slice A.fa A.K A.fc] 32)).alloc (.cells #[.slice wsa s wsc, .slice wla m wlc] 27) = W ∧
  Below w.heap.size w W ∧ W.heap.size = w.heap.size + 2 ∧ Bo W w.heap.size A ∧ W.cell? ⟨w.heap.size + 1, 0, none⟩ = some (.slice wsa s wsc) ∧ W.cell? ⟨w.heap.size + 1, 1, none⟩ = some (.slice wla m wlc) := by
 have h1 : Bo (w.alloc (.cells #[.slice A.sa A.sn A.sc, .slice A.na A.G A.nc, .slice A.ma A.M A.mc, .slice A.oa A.O A.oc, .slice A.fa A.K A.fc] 32)) w.heap.size A := ⟨cell_of_alloc rfl, cell_of_alloc rfl, cell_of_alloc rfl, cell_of_alloc rfl, cell_of_alloc rfl⟩
 have b1 := box_below w (.cells #[.slice A.sa A.sn A.sc, .slice A.na A.G A.nc, .slice A.ma A.M A.mc, .slice A.oa A.O A.oc, .slice A.fa A.K A.fc] 32)
 have s1 : (w.alloc (.cells #[.slice A.sa A.sn A.sc, .slice A.na A.G A.nc, .slice A.ma A.M A.mc, .slice A.oa A.O A.oc, .slice A.fa A.K A.fc] 32)).heap.size = w.heap.size + 1 := by simp
 generalize w.alloc (.cells #[.slice A.sa A.sn A.sc, .slice A.na A.G A.nc, .slice A.ma A.M A.mc, .slice A.oa A.O A.oc, .slice A.fa A.K A.fc] 32) = W1 at *
 have b2 := box_below W1 (.cells #[.slice wsa s wsc, .slice wla m wlc] 27)
 have c0 : (W1.alloc (.cells #[.slice wsa s wsc, .slice wla m wlc] 27)).cell? ⟨W1.heap.size, 0, none⟩ = some (.slice wsa s wsc) := cell_of_alloc rfl
 have c1 : (W1.alloc (.cells #[.slice wsa s wsc, .slice wla m wlc] 27)).cell? ⟨W1.heap.size, 1, none⟩ = some (.slice wla m wlc) := cell_of_alloc rfl
 rw [s1] at c0 c1
 exact ⟨_, rfl, b1.trans (b2.mono (by omega)), by simp [s1], h1.below b2, c0, c1⟩
def Rq (w : World) (b : Nat) (v0 v1 v2 v3 : Value) : Prop := w.heap[b]? = some (.cells #[v0, v1, v2, v3] 67)
theorem Rq.below {w w' : World} {b B : Nat} {v0 v1 v2 v3 : Value} (h : Rq w b v0 v1 v2 v3) (hb : Below B w w') (hB : b < B) : Rq w' b v0 v1 v2 v3 := (hb.block b hB).trans h
theorem Rq.lt {w : World} {b : Nat} {v0 v1 v2 v3 : Value} (h : Rq w b v0 v1 v2 v3) : b < w.heap.size := (jq4.1 h).1
theorem Rq.cells {w : World} {b : Nat} {v0 v1 v2 v3 : Value} (h : Rq w b v0 v1 v2 v3) : w.cell? ⟨b, 0, none⟩ = some v0 ∧ w.cell? ⟨b, 1, none⟩ = some v1 ∧ w.cell? ⟨b, 2, none⟩ = some v2 ∧ w.cell? ⟨b, 3, none⟩ = some v3 :=
 ⟨cell_of_cells h rfl, cell_of_cells h rfl, cell_of_cells h rfl, cell_of_cells h rfl⟩
theorem Rq.free {w : World} {b : Nat} {v0 v1 v2 v3 : Value} (h : Rq w b v0 v1 v2 v3) (i : Nat) : w.frozen? ⟨b, i, none⟩ = false := by
 have h' : w.heap[b]? = some (.cells #[v0, v1, v2, v3] 67) := h
 unfold World.frozen?
 rw [h']
 simp
theorem Rq.set4 {w : World} {b : Nat} {v0 v1 v2 v3 : Value} (h : Rq w b v0 v1 v2 v3) (x0 x1 x2 x3 : Value) : Rq ((((w.setCell ⟨b, 0, none⟩ x0).setCell ⟨b, 1, none⟩ x1).setCell ⟨b, 2, none⟩ x2).setCell ⟨b, 3, none⟩ x3) b x0 x1 x2 x3 :=
 blk_setCell (blk_setCell (blk_setCell (blk_setCell h)))
theorem Rq.set2 {w : World} {b : Nat} {v0 v1 v2 v3 : Value} (h : Rq w b v0 v1 v2 v3) (x2 : Value) : Rq (w.setCell ⟨b, 2, none⟩ x2) b v0 v1 x2 v3 := blk_setCell h
section
variable {P : Program} {ops : Array Oper} {Q : Exit → Act → World → Prop} {md : Region.Mode} {S : World → Prop} {ex : Nat → Bool}
theorem G_alt {f : Nat} {listed : Array Bool} {a : Act} {w : World} {l : List Nat} (hr : Region.ready md ops listed = l) (hl : l ≠ [])
  (h : ∀ i, i ∈ l → ∃ o, ops[i]? = some o ∧ ∀ K' : Act → World → Prop, Shut (∀ a w, (ex i = false → S w) → ((ex i = false → S w) → wpAnyG P md ops Q S ex f (listed.setIfInBounds i true) a w) → K' a w) → if Region.wanted o (yielded ops a.tmps) = true then Oper.wp P o a w K' Q else K' (a.put o.dst undef) w) :
  wpAnyG P md ops Q S ex (f + 1) listed a w := by
 refine ⟨fun h0 => absurd (hr.symm.trans h0) hl, fun j hj => ?_⟩
 rw [hr] at hj
 obtain ⟨o, ho, hh⟩ := h j hj
 exact wpOp_step ho (fun K' hK => hh K' (fun a w hS hW => hK a w ⟨hS, hW hS⟩))
end
theorem chkA_ok {A : Ax} (h : chkA A = 0) : A.G ≤ 2048 ∧ A.K ≤ 80 ∧ A.M = A.G ∧ A.O = A.G ∧ (∀ i, i < A.sn → 0 ≤ A.S i ∧ A.S i < A.G) ∧ (∀ r, r < A.G → ∀ i, i < A.L r → 0 ≤ A.Z r i ∧ A.Z r i < A.G) ∧ (∀ r, r < A.K → ∀ i, i < A.FL r → 0 ≤ A.FZ r i ∧ A.FZ r i < A.G) ∧ okL A.G A.L A.Z A.G = true := by
 unfold chkA at h
 by_cases h1 : 2048 < A.G ∨ 80 < A.K
 ·rw [if_pos h1] at h; cases h
 ·rw [if_neg h1] at h
  by_cases h2 : A.M ≠ A.G ∨ A.O ≠ A.G
  ·rw [if_pos h2] at h; cases h
  ·rw [if_neg h2] at h
   by_cases h3 : allIn A.sn A.S A.G = true ∧ okL A.G A.L A.Z A.G = true ∧ okL A.K A.FL A.FZ A.G = true
   ·exact ⟨by omega, by omega, by omega, by omega, allIn_all h3.1, okL_all h3.2.1, okL_all h3.2.2, h3.2.1⟩
   ·rw [if_neg h3] at h; cases h
theorem op_append {P : Program} {w : World} {o : Oper} {a : Act} {K : Act → World → Prop} {Q : Exit → Act → World → Prop} (s x : Operand) (t : TypeId)
  (ho : o.op = .call { callee := .builtin .append, args := #[s, x], argTypes := #[t, t] })
  (base : Nat) (e : TypeId) (i : TypeInfo) (z : Value) (size bytes : Nat) (ht : P.underlying t = some (.slice e)) (hi : P.info? e = some i) (hz : i.zero = some z)
  (hsize : i.size = size) (hby : i.bytes = bytes) (hzs : z.cells.size = size) (hsz : 0 < size)
  (v : Value) (n : Nat) (xs : List Value) (hs : a.eval s = v) (hown : w.ownsRow base e size v n xs)
  (ad : Addr) (m c : Nat) (news : List Value) (hx : a.eval x = .slice (some ad) m c) (hl : news.length = m * size) (hnews : ∀ j u, news[j]? = some u → w.cell? (ad.add j) = some u) (h1 : ∀ u ∈ news, u.oneCell' = true)
  (h63 : n + m ≤ maxLen) (hbytes : (n + m) * bytes ≤ 140737488355328) (hbase : base ≤ w.heap.size)
  (h : ∀ v' w', w'.ownsRow base e size v' (n + m) (xs ++ news) → w.grownBy w' v.ownBlock → K (a.put o.dst v') w') : o.wp P a w K Q := by
 obtain ⟨v', w', hr, h2, h3, h4, h5⟩ := run_append_own_at (P := P) w base t o.type e i z size bytes ht hi hz hsize hby hzs hsz v n xs hown ad m c news hl hnews h1 h63 hbytes hbase
 unfold Oper.wp execOp
 simp only [ho, resolve, invoke, builtin, Sem.run_bind, Sem.run_pure, Result.andThen_ok, List.map_toArray, List.map_cons, List.map_nil, hs, hx, hr]
 exact h v' w' h2 h3
theorem cellsS_news {w : World} {b : Nat} {x : Nat → Nat} (h : Bx w b x) : ∀ j u, (cellsS x).toList[j]? = some u → w.cell? ((⟨b, 0, none⟩ : Addr).add j) = some u := by
 intro j u hu
 rw [Addr.add_mid, Nat.zero_add]
 exact cell_of_cells h.blk (by simpa using hu)
theorem But.trans_new {b c : Nat} {u v w : World} (h : But b u v) (k : But c v w) (hc : u.heap.size ≤ c) : But b u w :=
 ⟨k.os.trans h.os, k.tape.trans h.tape, k.output.trans h.output, Nat.le_trans h.size k.size, fun i h1 h2 => (k.block i (Nat.lt_of_lt_of_le h1 h.size) (by omega)).trans (h.block i h1 h2)⟩
theorem has_tl (L : Nat → Nat) (Z : Nat → Nat → Int) (G a b : Nat) : has (tl L Z G a).length (fun i => (tl L Z G a).getD i 0) b = true ↔ b < G ∧ has (L b) (Z b) a = true := by
 have h1 : has (tl L Z G a).length (fun i => (tl L Z G a).getD i 0) b = true ↔ ((b : Int) ∈ tl L Z G a) := by
  unfold has
  rw [decide_eq_true_eq]
  constructor
  ·rintro ⟨i, hi, e⟩
   rw [← e]
   dsimp only
   rw [List.getD_eq_getElem?_getD, List.getElem?_eq_getElem hi]
   exact List.getElem_mem _
  ·intro hm
   obtain ⟨i, hi, e⟩ := List.mem_iff_getElem.1 hm
   exact ⟨i, hi, by dsimp only; rw [List.getD_eq_getElem?_getD, List.getElem?_eq_getElem hi]; exact e⟩
 rw [h1]
 unfold tl
 rw [List.mem_map]
 constructor
 ·rintro ⟨q, hq, e⟩
  rw [List.mem_filter, List.mem_range] at hq
  have : q = b := by omega
  subst this
  exact hq
 ·rintro ⟨h2, h3⟩
  exact ⟨b, List.mem_filter.2 ⟨List.mem_range.2 h2, h3⟩, rfl⟩
theorem tl_bd (L : Nat → Nat) (Z : Nat → Nat → Int) (G r : Nat) (hG : G ≤ 2048) : ∀ i, i < (tl L Z G r).length → 0 ≤ (tl L Z G r).getD i 0 ∧ (tl L Z G r).getD i 0 < 2048 := by
 intro i hi
 have hm : (tl L Z G r).getD i 0 ∈ tl L Z G r := by rw [List.getD_eq_getElem?_getD, List.getElem?_eq_getElem hi]; exact List.getElem_mem _
 have h1 := tl_lt L Z G r _ hm
 have h2 : 0 ≤ (tl L Z G r).getD i 0 := by
  unfold tl at hm ⊢
  obtain ⟨q, _, e⟩ := List.mem_map.1 hm
  rw [← e]; omega
 omega
set_option maxRecDepth 100000 in
set_option maxHeartbeats 8000000 in
theorem accepts_any (A : Ax) (wsa : Option Addr) (s wsc : Nat) (wla : Option Addr) (m wlc : Nat) (S' L' : Nat → Int) (w : World) (h : Aw w A) (hw : Wd w wsa s wla m S' L') (hT : Tb w) :
  Calls Tryz.prog 9 #[A.val, .agg #[.slice wsa s wsc, .slice wla m wlc]] w fun e w' => AcIs A s m S' L' e ∧ Below w.heap.size w w' := by
 have H := hid h
 have HW := hid hw
 have HT := hid hT
 have hs47 := hw.s47
 have hm47 := hw.m47
 obtain ⟨W1, hW1, hb1, hs1, hbo, hc0, hc1⟩ := ac_world w A wsa s wsc wla m wlc
 have HB1 := hid hb1
 have C1 := hid (chkA_any A W1 (h.below hb1))
 clear h hw hT hb1
 obtain ⟨er, her⟩ : ∃ er, chkA A = er := ⟨_, rfl⟩
 rw [her] at C1
 have HER := hid her
 obtain ⟨q0, q1, q2, q3, q4⟩ := hbo
 obtain ⟨sa, sn, sc, na, G, nc, ma, M, mc, oa, O, oc, fa, K, fc, S, L, Z, Mu, No, FL, FZ⟩ := A
 dsimp only [Ax.val] at *
 clear her
 by_cases h0 : er = 0
 ·subst h0
  have C2 := hid (fun (z : World) => wcheck_any wsa s wsc wla m wlc z hs47 hm47)
  obtain ⟨e2, he2⟩ : ∃ e2, wchk s m = e2 := ⟨_, rfl⟩
  rw [he2] at C2
  have HE2 := hid he2
  clear he2
  go_enter Tryz.func9, Tryz.ntmps9
  go_wp2_with fail
  refine C1.out.mono ?_
  rintro e w2 ⟨rfl, hb2⟩
  have p0 := below_cell hb2 jq0 q0
  have p1 := below_cell hb2 jq0 q1
  have p2 := below_cell hb2 jq0 q2
  have p3 := below_cell hb2 jq0 q3
  have p4 := below_cell hb2 jq0 q4
  have d0 := below_cell hb2 jq0 hc0
  have d1 := below_cell hb2 jq0 hc1
  have HB2 := hid (HB1.out.trans (hb2.mono HB1.out.size))
  have hsz2 : w.heap.size + 2 ≤ w2.heap.size := by have := hb2.size; omega
  clear hb2 q0 q1 q2 q3 q4 hc0 hc1 hs1
  go_wp2_with fail
  refine (C2.out w2).mono ?_
  rintro e w3 ⟨rfl, hb3⟩
  have q0 := below_cell hb3 jq0 p0
  have q1 := below_cell hb3 jq0 p1
  have q2 := below_cell hb3 jq0 p2
  have q3 := below_cell hb3 jq0 p3
  have q4 := below_cell hb3 jq0 p4
  have c0 := below_cell hb3 jq0 d0
  have c1 := below_cell hb3 jq0 d1
  have HB3 := hid (HB2.out.trans (hb3.mono HB2.out.size))
  have hsz3 : w.heap.size + 2 ≤ w3.heap.size := by have := hb3.size; omega
  clear hb3 p0 p1 p2 p3 p4 d0 d1 hsz2
  by_cases h2 : e2 = 0
  ·subst h2
   obtain ⟨hG, hK80, hM, hO, hS, hZ, hFZ, hok⟩ := chkA_ok HER.out
   obtain ⟨hsm, hm0⟩ := wchk_ok HE2.out
   dsimp only at hG hK80 hM hO hS hZ hFZ hok
   have HMO := hid (And.intro hM hO)
   clear hM hO
   have hHw3 := H.out.below HB3.out
   have herr : errG G L Z = 0 := errG_ok (by omega) (okG_yes (fun r hr => by have := hok; unfold okL at this; rw [decide_eq_true_eq] at this; exact this r hr))
   have C3 := hid (turn_ok na G nc L Z w3 H.out.l47 hHw3.next herr)
   have HZ := hid hZ
   have HFZ := hid hFZ
   have HS0 := hid hS
   clear hZ hFZ hS hok herr hHw3 C1 C2
   go_wp2_with fail
   refine C3.out.mono ?_
   rintro e u ⟨rfl, V, hF⟩
   have hbu := hF.below
   have HBu := hid (HB3.out.trans (hbu.mono HB3.out.size))
   have HGr := hid hF.gr
   have p0 := below_cell hbu jq0 q0
   have p1 := below_cell hbu jq0 q1
   have p2 := below_cell hbu jq0 q2
   have p3 := below_cell hbu jq0 q3
   have p4 := below_cell hbu jq0 q4
   have d0 := below_cell hbu jq0 c0
   have d1 := below_cell hbu jq0 c1
   have hszu : w.heap.size + 2 ≤ u.heap.size := by have := hbu.size; omega
   clear hF hbu q0 q1 q2 q3 q4 c0 c1 hsz3 C3
   have D1 := hid (fun (z : World) (hz : Below u.heap.size u z) => setsOf_any na G nc L Z z hG H.out.l47 ((H.out.below HBu.out).below hz).next (fun r hr i hi => by have := HZ.out r hr i hi; omega))
   have D2 := hid (fun (z : World) (hz : Below u.heap.size u z) => setsOf_any (some ⟨w3.heap.size, 0, none⟩) G G (fun j => (tl L Z G j).length) (fun j i => (tl L Z G j).getD i 0) z hG (fun r hr => by have := tl_le L Z G r; omega) (HGr.out.below hz) (fun r hr i hi => by
    have hm : (tl L Z G r).getD i 0 ∈ tl L Z G r := by rw [List.getD_eq_getElem?_getD, List.getElem?_eq_getElem hi]; exact List.getElem_mem _
    have h1 := tl_lt L Z G r _ hm
    have h2 : 0 ≤ (tl L Z G r).getD i 0 := by
     unfold tl at hm ⊢
     obtain ⟨q, _, e⟩ := List.mem_map.1 hm
     rw [← e]; omega
    omega))
   have D3 := hid (fun (z : World) (hz : Below u.heap.size u z) => setsOf_any fa K fc FL FZ z (by omega) H.out.f47 ((H.out.below HBu.out).below hz).fair (fun r hr i hi => by have := HFZ.out r hr i hi; omega))
   have HS : Hid (∀ z, Below u.heap.size u z → (fun y => y.cell? ⟨w.heap.size, 1, none⟩ = some (.slice na G nc) ∧ y.cell? ⟨w.heap.size, 4, none⟩ = some (.slice fa K fc)) z) := hid (fun z hz => ⟨below_cell hz jq0 p1, below_cell hz jq0 p4⟩)
   go_wp2_with fail
   go_cut [10] from 33 to 41 (fun v10 wc => ∃ x10 nb pb fb, v10 = .pointer (some ⟨x10, 0, none⟩) ∧ Hid (Below u.heap.size u wc ∧ Rq wc x10 (.slice (some ⟨nb, 0, none⟩) G G) (.slice (some ⟨pb, 0, none⟩) G G) (.slice none 0 0) (.slice (some ⟨fb, 0, none⟩) K K) ∧ Ls wc nb G (fun r => ofL (Z r) (L r)) ∧ Ls wc pb G (fun r => ofL (fun i => (tl L Z G r).getD i 0) (tl L Z G r).length) ∧ Ls wc fb K (fun r => ofL (FZ r) (FL r)) ∧ (u.heap.size ≤ x10 ∧ x10 < wc.heap.size) ∧ (u.heap.size ≤ nb ∧ nb < wc.heap.size ∧ nb ≠ x10) ∧ (u.heap.size ≤ pb ∧ pb < wc.heap.size ∧ pb ≠ x10) ∧ (u.heap.size ≤ fb ∧ fb < wc.heap.size ∧ fb ≠ x10)))
   case first =>
    have hB0 : Below u.heap.size u u.drew := below_drewN (Below.refl _ _) 1
    refine G_region (fun y => y.cell? ⟨w.heap.size, 1, none⟩ = some (.slice na G nc) ∧ y.cell? ⟨w.heap.size, 4, none⟩ = some (.slice fa K fc)) (fun _ => false) (by kernel_rfl) (HS.out _ hB0) (fun _ => ?_)
    refine G_tk (i := 0) (oi := { dst := some 33, op := Op.fieldAddr 32 (Operand.tmp 2) 1, type := 0, pos := _, after := #[], guard := none }) (v := .pointer (some ⟨w.heap.size, 1, none⟩)) (HS.out _ hB0) ?_
    (try simp only [Act.put, jq1, jq2, jq3])
    refine G_tk (i := 1) (oi := { dst := some 34, op := Op.load 30 (Operand.tmp 33), type := 30, pos := _, after := #[{ on := 0, ground := Ground.data }], guard := none }) (v := .slice na G nc) (HS.out _ hB0) ?_
    (try simp only [Act.put, jq1, jq2, jq3])
    refine G_tk (i := 3) (oi := { dst := some 36, op := Op.move (Operand.tmp 8), type := 30, pos := _, after := #[], guard := none }) (v := .slice (some ⟨w3.heap.size, 0, none⟩) G G) (HS.out _ hB0) ?_
    (try simp only [Act.put, jq1, jq2, jq3])
    refine G_tk (i := 5) (oi := { dst := some 38, op := Op.fieldAddr 32 (Operand.tmp 2) 4, type := 0, pos := _, after := #[], guard := none }) (v := .pointer (some ⟨w.heap.size, 4, none⟩)) (HS.out _ hB0) ?_
    (try simp only [Act.put, jq1, jq2, jq3])
    refine G_tk (i := 6) (oi := { dst := some 39, op := Op.load 30 (Operand.tmp 38), type := 30, pos := _, after := #[{ on := 5, ground := Ground.data }], guard := none }) (v := .slice fa K fc) (HS.out _ hB0) ?_
    (try simp only [Act.put, jq1, jq2, jq3])
    obtain ⟨y0, hy0⟩ : ∃ q, q = u.drew := ⟨_, rfl⟩
    rw [← hy0] at hB0 ⊢
    have hz0 : u.heap.size ≤ y0.heap.size := hB0.size
    clear hy0
    refine G_alt (l := [2, 9]) (by kernel_rfl) (by decide) ?_
    intro i hi
    have hi2 : i = 2 ∨ i = 9 := by simpa using hi
    clear hi
    rcases hi2 with rfl | rfl
    ·refine ⟨_, rfl, fun K' hK => ?_⟩
     go_simp
     refine (D1.out y0 hB0).mono ?_
     rintro e y1 ⟨rfl, hl0, hb1, k0⟩
     dsimp only
     have hB1 := hB0.trans (hb1.mono hB0.size)
     have hz1 := hb1.size
     refine hK.out _ _ (fun _ => HS.out _ hB1) (fun _ => ?_)
     clear hK K'
     (try simp only [Act.put, jq1, jq2, jq3])
     refine G_alt (l := [4, 9]) (by kernel_rfl) (by decide) ?_
     intro i hi
     have hi2 : i = 4 ∨ i = 9 := by simpa using hi
     clear hi
     rcases hi2 with rfl | rfl
     ·refine ⟨_, rfl, fun K' hK => ?_⟩
      go_simp
      refine (D2.out y1 hB1).mono ?_
      rintro e y2 ⟨rfl, hl1, hb2, k1⟩
      dsimp only
      have hB2 := hB1.trans (hb2.mono hB1.size)
      have hz2 := hb2.size
      have hl0 := hl0.below' hb2
      refine hK.out _ _ (fun _ => HS.out _ hB2) (fun _ => ?_)
      clear hK K'
      (try simp only [Act.put, jq1, jq2, jq3])
      refine G_alt (l := [7, 9]) (by kernel_rfl) (by decide) ?_
      intro i hi
      have hi2 : i = 7 ∨ i = 9 := by simpa using hi
      clear hi
      rcases hi2 with rfl | rfl
      ·refine ⟨_, rfl, fun K' hK => ?_⟩
       go_simp
       refine (D3.out y2 hB2).mono ?_
       rintro e y3 ⟨rfl, hl2, hb3, k2⟩
       dsimp only
       have hB3 := hB2.trans (hb3.mono hB2.size)
       have hz3 := hb3.size
       have hl0 := hl0.below' hb3
       have hl1 := hl1.below' hb3
       refine hK.out _ _ (fun _ => HS.out _ hB3) (fun _ => ?_)
       clear hK K'
       (try simp only [Act.put, jq1, jq2, jq3])
       refine G_tk (i := 8) (oi := { dst := some 41, op := Op.build 67 #[(0, Operand.tmp 35), (1, Operand.tmp 37), (3, Operand.tmp 40)], type := 67, pos := _, after := #[{ on := 2, ground := Ground.data }, { on := 4, ground := Ground.data }, { on := 7, ground := Ground.data }], guard := none }) (v := .agg #[.slice (some ⟨y0.heap.size, 0, none⟩) G G, .slice (some ⟨y1.heap.size, 0, none⟩) G G, .slice none 0 0, .slice (some ⟨y2.heap.size, 0, none⟩) K K]) (HS.out _ hB3) ?_
       (try simp only [Act.put, jq1, jq2, jq3])
       refine G_step (i := 9) (o := _) (by kernel_rfl) rfl (fun K' hK => ?_)
       go_simp
       obtain ⟨y4, hy4⟩ : ∃ q, q = y3.alloc (.cells #[.slice none 0 0, .slice none 0 0, .slice none 0 0, .slice none 0 0] 67) := ⟨_, rfl⟩
       have hb4 : Below y3.heap.size y3 y4 := by rw [hy4]; exact box_below _ _
       have hr : Rq y4 y3.heap.size (.slice none 0 0) (.slice none 0 0) (.slice none 0 0) (.slice none 0 0) := by rw [hy4]; exact Go.Deep.blk_alloc_new _ _
       rw [← hy4]
       have hB4 := hB3.trans (hb4.mono hB3.size)
       have hz4 := hb4.size
       have kr := hr.lt
       clear hy4
       have hl0 := hl0.below' hb4
       have hl1 := hl1.below' hb4
       have hl2 := hl2.below' hb4
       refine hK.out _ _ (fun _ => HS.out _ hB4) (fun _ => ?_)
       clear hK K'
       (try simp only [Act.put, jq1, jq2, jq3])
       obtain ⟨f0, f1, f2, f3⟩ := hr.cells
       have g0 := hr.free 0
       have g1 := hr.free 1
       have g2 := hr.free 2
       have g3 := hr.free 3
       refine G_step (i := 10) (o := _) (by kernel_rfl) rfl (fun K' hK => ?_)
       go_simp
       have hbt : But y3.heap.size y4 ((((y4.setCell ⟨y3.heap.size, 0, none⟩ (.slice (some ⟨y0.heap.size, 0, none⟩) G G)).setCell ⟨y3.heap.size, 1, none⟩ (.slice (some ⟨y1.heap.size, 0, none⟩) G G)).setCell ⟨y3.heap.size, 2, none⟩ (.slice none 0 0)).setCell ⟨y3.heap.size, 3, none⟩ (.slice (some ⟨y2.heap.size, 0, none⟩) K K)) := ((((But.refl _ _).setCell _ _).setCell _ _).setCell _ _).setCell _ _
       have hrq := hr.set4 (.slice (some ⟨y0.heap.size, 0, none⟩) G G) (.slice (some ⟨y1.heap.size, 0, none⟩) G G) (.slice none 0 0) (.slice (some ⟨y2.heap.size, 0, none⟩) K K)
       generalize (((y4.setCell ⟨y3.heap.size, 0, none⟩ (.slice (some ⟨y0.heap.size, 0, none⟩) G G)).setCell ⟨y3.heap.size, 1, none⟩ (.slice (some ⟨y1.heap.size, 0, none⟩) G G)).setCell ⟨y3.heap.size, 2, none⟩ (.slice none 0 0)).setCell ⟨y3.heap.size, 3, none⟩ (.slice (some ⟨y2.heap.size, 0, none⟩) K K) = yf at *
       have hne0 : y0.heap.size ≠ y3.heap.size := by omega
       have hne1 : y1.heap.size ≠ y3.heap.size := by omega
       have hne2 : y2.heap.size ≠ y3.heap.size := by omega
       have hBf : Below u.heap.size u yf := hB4.trans (hbt.below (by omega) hB4.size)
       refine hK.out _ _ (fun _ => HS.out _ hBf) (fun _ => ?_)
       clear hK K' f0 f1 f2 f3 g0 g1 g2 g3
       (try simp only [Act.put, jq1, jq2, jq3])
       refine G_done (by kernel_rfl) ?_ _
       have HFIN : Hid (Below u.heap.size u yf ∧ Rq yf y3.heap.size (.slice (some ⟨y0.heap.size, 0, none⟩) G G) (.slice (some ⟨y1.heap.size, 0, none⟩) G G) (.slice none 0 0) (.slice (some ⟨y2.heap.size, 0, none⟩) K K) ∧ Ls yf y0.heap.size G (fun r => ofL (Z r) (L r)) ∧ Ls yf y1.heap.size G (fun r => ofL (fun i => (tl L Z G r).getD i 0) (tl L Z G r).length) ∧ Ls yf y2.heap.size K (fun r => ofL (FZ r) (FL r)) ∧ (u.heap.size ≤ y3.heap.size ∧ y3.heap.size < yf.heap.size) ∧ (u.heap.size ≤ y0.heap.size ∧ y0.heap.size < yf.heap.size ∧ y0.heap.size ≠ y3.heap.size) ∧ (u.heap.size ≤ y1.heap.size ∧ y1.heap.size < yf.heap.size ∧ y1.heap.size ≠ y3.heap.size) ∧ (u.heap.size ≤ y2.heap.size ∧ y2.heap.size < yf.heap.size ∧ y2.heap.size ≠ y3.heap.size)) :=
        hid ⟨hBf, hrq, hl0.but hbt hne0, hl1.but hbt hne1, hl2.but hbt hne2, by have := hbt.size; omega, by have := hbt.size; omega, by have := hbt.size; omega, by have := hbt.size; omega⟩
       clear hBf hrq hbt
       go_wp2_with fail
       go_meet
       exact ⟨y3.heap.size, y0.heap.size, y1.heap.size, y2.heap.size, rfl, HFIN⟩
      ·refine ⟨_, rfl, fun K' hK => ?_⟩
       go_simp
       obtain ⟨y3, hy3⟩ : ∃ q, q = y2.alloc (.cells #[.slice none 0 0, .slice none 0 0, .slice none 0 0, .slice none 0 0] 67) := ⟨_, rfl⟩
       have hb3 : Below y2.heap.size y2 y3 := by rw [hy3]; exact box_below _ _
       have hr : Rq y3 y2.heap.size (.slice none 0 0) (.slice none 0 0) (.slice none 0 0) (.slice none 0 0) := by rw [hy3]; exact Go.Deep.blk_alloc_new _ _
       rw [← hy3]
       have hB3 := hB2.trans (hb3.mono hB2.size)
       have hz3 := hb3.size
       have kr := hr.lt
       clear hy3
       have hl0 := hl0.below' hb3
       have hl1 := hl1.below' hb3
       refine hK.out _ _ (fun _ => HS.out _ hB3) (fun _ => ?_)
       clear hK K'
       (try simp only [Act.put, jq1, jq2, jq3])
       refine G_step (i := 7) (o := _) (by kernel_rfl) rfl (fun K' hK => ?_)
       go_simp
       refine (D3.out y3 hB3).mono ?_
       rintro e y4 ⟨rfl, hl2, hb4, k2⟩
       dsimp only
       have hB4 := hB3.trans (hb4.mono hB3.size)
       have hz4 := hb4.size
       have hl0 := hl0.below' hb4
       have hl1 := hl1.below' hb4
       have hr := hr.below hb4 hr.lt
       refine hK.out _ _ (fun _ => HS.out _ hB4) (fun _ => ?_)
       clear hK K'
       (try simp only [Act.put, jq1, jq2, jq3])
       refine G_tk (i := 8) (oi := { dst := some 41, op := Op.build 67 #[(0, Operand.tmp 35), (1, Operand.tmp 37), (3, Operand.tmp 40)], type := 67, pos := _, after := #[{ on := 2, ground := Ground.data }, { on := 4, ground := Ground.data }, { on := 7, ground := Ground.data }], guard := none }) (v := .agg #[.slice (some ⟨y0.heap.size, 0, none⟩) G G, .slice (some ⟨y1.heap.size, 0, none⟩) G G, .slice none 0 0, .slice (some ⟨y3.heap.size, 0, none⟩) K K]) (HS.out _ hB4) ?_
       (try simp only [Act.put, jq1, jq2, jq3])
       obtain ⟨f0, f1, f2, f3⟩ := hr.cells
       have g0 := hr.free 0
       have g1 := hr.free 1
       have g2 := hr.free 2
       have g3 := hr.free 3
       refine G_step (i := 10) (o := _) (by kernel_rfl) rfl (fun K' hK => ?_)
       go_simp
       have hbt : But y2.heap.size y4 ((((y4.setCell ⟨y2.heap.size, 0, none⟩ (.slice (some ⟨y0.heap.size, 0, none⟩) G G)).setCell ⟨y2.heap.size, 1, none⟩ (.slice (some ⟨y1.heap.size, 0, none⟩) G G)).setCell ⟨y2.heap.size, 2, none⟩ (.slice none 0 0)).setCell ⟨y2.heap.size, 3, none⟩ (.slice (some ⟨y3.heap.size, 0, none⟩) K K)) := ((((But.refl _ _).setCell _ _).setCell _ _).setCell _ _).setCell _ _
       have hrq := hr.set4 (.slice (some ⟨y0.heap.size, 0, none⟩) G G) (.slice (some ⟨y1.heap.size, 0, none⟩) G G) (.slice none 0 0) (.slice (some ⟨y3.heap.size, 0, none⟩) K K)
       generalize (((y4.setCell ⟨y2.heap.size, 0, none⟩ (.slice (some ⟨y0.heap.size, 0, none⟩) G G)).setCell ⟨y2.heap.size, 1, none⟩ (.slice (some ⟨y1.heap.size, 0, none⟩) G G)).setCell ⟨y2.heap.size, 2, none⟩ (.slice none 0 0)).setCell ⟨y2.heap.size, 3, none⟩ (.slice (some ⟨y3.heap.size, 0, none⟩) K K) = yf at *
       have hne0 : y0.heap.size ≠ y2.heap.size := by omega
       have hne1 : y1.heap.size ≠ y2.heap.size := by omega
       have hne2 : y3.heap.size ≠ y2.heap.size := by omega
       have hBf : Below u.heap.size u yf := hB4.trans (hbt.below (by omega) hB4.size)
       refine hK.out _ _ (fun _ => HS.out _ hBf) (fun _ => ?_)
       clear hK K' f0 f1 f2 f3 g0 g1 g2 g3
       (try simp only [Act.put, jq1, jq2, jq3])
       refine G_done (by kernel_rfl) ?_ _
       have HFIN : Hid (Below u.heap.size u yf ∧ Rq yf y2.heap.size (.slice (some ⟨y0.heap.size, 0, none⟩) G G) (.slice (some ⟨y1.heap.size, 0, none⟩) G G) (.slice none 0 0) (.slice (some ⟨y3.heap.size, 0, none⟩) K K) ∧ Ls yf y0.heap.size G (fun r => ofL (Z r) (L r)) ∧ Ls yf y1.heap.size G (fun r => ofL (fun i => (tl L Z G r).getD i 0) (tl L Z G r).length) ∧ Ls yf y3.heap.size K (fun r => ofL (FZ r) (FL r)) ∧ (u.heap.size ≤ y2.heap.size ∧ y2.heap.size < yf.heap.size) ∧ (u.heap.size ≤ y0.heap.size ∧ y0.heap.size < yf.heap.size ∧ y0.heap.size ≠ y2.heap.size) ∧ (u.heap.size ≤ y1.heap.size ∧ y1.heap.size < yf.heap.size ∧ y1.heap.size ≠ y2.heap.size) ∧ (u.heap.size ≤ y3.heap.size ∧ y3.heap.size < yf.heap.size ∧ y3.heap.size ≠ y2.heap.size)) :=
        hid ⟨hBf, hrq, hl0.but hbt hne0, hl1.but hbt hne1, hl2.but hbt hne2, by have := hbt.size; omega, by have := hbt.size; omega, by have := hbt.size; omega, by have := hbt.size; omega⟩
       clear hBf hrq hbt
       go_wp2_with fail
       go_meet
       exact ⟨y2.heap.size, y0.heap.size, y1.heap.size, y3.heap.size, rfl, HFIN⟩
     ·refine ⟨_, rfl, fun K' hK => ?_⟩
      go_simp
      obtain ⟨y2, hy2⟩ : ∃ q, q = y1.alloc (.cells #[.slice none 0 0, .slice none 0 0, .slice none 0 0, .slice none 0 0] 67) := ⟨_, rfl⟩
      have hb2 : Below y1.heap.size y1 y2 := by rw [hy2]; exact box_below _ _
      have hr : Rq y2 y1.heap.size (.slice none 0 0) (.slice none 0 0) (.slice none 0 0) (.slice none 0 0) := by rw [hy2]; exact Go.Deep.blk_alloc_new _ _
      rw [← hy2]
      have hB2 := hB1.trans (hb2.mono hB1.size)
      have hz2 := hb2.size
      have kr := hr.lt
      clear hy2
      have hl0 := hl0.below' hb2
      refine hK.out _ _ (fun _ => HS.out _ hB2) (fun _ => ?_)
      clear hK K'
      (try simp only [Act.put, jq1, jq2, jq3])
      refine G_step (i := 4) (o := _) (by kernel_rfl) rfl (fun K' hK => ?_)
      go_simp
      refine (D2.out y2 hB2).mono ?_
      rintro e y3 ⟨rfl, hl1, hb3, k1⟩
      dsimp only
      have hB3 := hB2.trans (hb3.mono hB2.size)
      have hz3 := hb3.size
      have hl0 := hl0.below' hb3
      have hr := hr.below hb3 hr.lt
      refine hK.out _ _ (fun _ => HS.out _ hB3) (fun _ => ?_)
      clear hK K'
      (try simp only [Act.put, jq1, jq2, jq3])
      refine G_step (i := 7) (o := _) (by kernel_rfl) rfl (fun K' hK => ?_)
      go_simp
      refine (D3.out y3 hB3).mono ?_
      rintro e y4 ⟨rfl, hl2, hb4, k2⟩
      dsimp only
      have hB4 := hB3.trans (hb4.mono hB3.size)
      have hz4 := hb4.size
      have hl0 := hl0.below' hb4
      have hl1 := hl1.below' hb4
      have hr := hr.below hb4 hr.lt
      refine hK.out _ _ (fun _ => HS.out _ hB4) (fun _ => ?_)
      clear hK K'
      (try simp only [Act.put, jq1, jq2, jq3])
      refine G_tk (i := 8) (oi := { dst := some 41, op := Op.build 67 #[(0, Operand.tmp 35), (1, Operand.tmp 37), (3, Operand.tmp 40)], type := 67, pos := _, after := #[{ on := 2, ground := Ground.data }, { on := 4, ground := Ground.data }, { on := 7, ground := Ground.data }], guard := none }) (v := .agg #[.slice (some ⟨y0.heap.size, 0, none⟩) G G, .slice (some ⟨y2.heap.size, 0, none⟩) G G, .slice none 0 0, .slice (some ⟨y3.heap.size, 0, none⟩) K K]) (HS.out _ hB4) ?_
      (try simp only [Act.put, jq1, jq2, jq3])
      obtain ⟨f0, f1, f2, f3⟩ := hr.cells
      have g0 := hr.free 0
      have g1 := hr.free 1
      have g2 := hr.free 2
      have g3 := hr.free 3
      refine G_step (i := 10) (o := _) (by kernel_rfl) rfl (fun K' hK => ?_)
      go_simp
      have hbt : But y1.heap.size y4 ((((y4.setCell ⟨y1.heap.size, 0, none⟩ (.slice (some ⟨y0.heap.size, 0, none⟩) G G)).setCell ⟨y1.heap.size, 1, none⟩ (.slice (some ⟨y2.heap.size, 0, none⟩) G G)).setCell ⟨y1.heap.size, 2, none⟩ (.slice none 0 0)).setCell ⟨y1.heap.size, 3, none⟩ (.slice (some ⟨y3.heap.size, 0, none⟩) K K)) := ((((But.refl _ _).setCell _ _).setCell _ _).setCell _ _).setCell _ _
      have hrq := hr.set4 (.slice (some ⟨y0.heap.size, 0, none⟩) G G) (.slice (some ⟨y2.heap.size, 0, none⟩) G G) (.slice none 0 0) (.slice (some ⟨y3.heap.size, 0, none⟩) K K)
      generalize (((y4.setCell ⟨y1.heap.size, 0, none⟩ (.slice (some ⟨y0.heap.size, 0, none⟩) G G)).setCell ⟨y1.heap.size, 1, none⟩ (.slice (some ⟨y2.heap.size, 0, none⟩) G G)).setCell ⟨y1.heap.size, 2, none⟩ (.slice none 0 0)).setCell ⟨y1.heap.size, 3, none⟩ (.slice (some ⟨y3.heap.size, 0, none⟩) K K) = yf at *
      have hne0 : y0.heap.size ≠ y1.heap.size := by omega
      have hne1 : y2.heap.size ≠ y1.heap.size := by omega
      have hne2 : y3.heap.size ≠ y1.heap.size := by omega
      have hBf : Below u.heap.size u yf := hB4.trans (hbt.below (by omega) hB4.size)
      refine hK.out _ _ (fun _ => HS.out _ hBf) (fun _ => ?_)
      clear hK K' f0 f1 f2 f3 g0 g1 g2 g3
      (try simp only [Act.put, jq1, jq2, jq3])
      refine G_done (by kernel_rfl) ?_ _
      have HFIN : Hid (Below u.heap.size u yf ∧ Rq yf y1.heap.size (.slice (some ⟨y0.heap.size, 0, none⟩) G G) (.slice (some ⟨y2.heap.size, 0, none⟩) G G) (.slice none 0 0) (.slice (some ⟨y3.heap.size, 0, none⟩) K K) ∧ Ls yf y0.heap.size G (fun r => ofL (Z r) (L r)) ∧ Ls yf y2.heap.size G (fun r => ofL (fun i => (tl L Z G r).getD i 0) (tl L Z G r).length) ∧ Ls yf y3.heap.size K (fun r => ofL (FZ r) (FL r)) ∧ (u.heap.size ≤ y1.heap.size ∧ y1.heap.size < yf.heap.size) ∧ (u.heap.size ≤ y0.heap.size ∧ y0.heap.size < yf.heap.size ∧ y0.heap.size ≠ y1.heap.size) ∧ (u.heap.size ≤ y2.heap.size ∧ y2.heap.size < yf.heap.size ∧ y2.heap.size ≠ y1.heap.size) ∧ (u.heap.size ≤ y3.heap.size ∧ y3.heap.size < yf.heap.size ∧ y3.heap.size ≠ y1.heap.size)) :=
       hid ⟨hBf, hrq, hl0.but hbt hne0, hl1.but hbt hne1, hl2.but hbt hne2, by have := hbt.size; omega, by have := hbt.size; omega, by have := hbt.size; omega, by have := hbt.size; omega⟩
      clear hBf hrq hbt
      go_wp2_with fail
      go_meet
      exact ⟨y1.heap.size, y0.heap.size, y2.heap.size, y3.heap.size, rfl, HFIN⟩
    ·refine ⟨_, rfl, fun K' hK => ?_⟩
     go_simp
     obtain ⟨y1, hy1⟩ : ∃ q, q = y0.alloc (.cells #[.slice none 0 0, .slice none 0 0, .slice none 0 0, .slice none 0 0] 67) := ⟨_, rfl⟩
     have hb1 : Below y0.heap.size y0 y1 := by rw [hy1]; exact box_below _ _
     have hr : Rq y1 y0.heap.size (.slice none 0 0) (.slice none 0 0) (.slice none 0 0) (.slice none 0 0) := by rw [hy1]; exact Go.Deep.blk_alloc_new _ _
     rw [← hy1]
     have hB1 := hB0.trans (hb1.mono hB0.size)
     have hz1 := hb1.size
     have kr := hr.lt
     clear hy1
     refine hK.out _ _ (fun _ => HS.out _ hB1) (fun _ => ?_)
     clear hK K'
     (try simp only [Act.put, jq1, jq2, jq3])
     refine G_step (i := 2) (o := _) (by kernel_rfl) rfl (fun K' hK => ?_)
     go_simp
     refine (D1.out y1 hB1).mono ?_
     rintro e y2 ⟨rfl, hl0, hb2, k0⟩
     dsimp only
     have hB2 := hB1.trans (hb2.mono hB1.size)
     have hz2 := hb2.size
     have hr := hr.below hb2 hr.lt
     refine hK.out _ _ (fun _ => HS.out _ hB2) (fun _ => ?_)
     clear hK K'
     (try simp only [Act.put, jq1, jq2, jq3])
     refine G_step (i := 4) (o := _) (by kernel_rfl) rfl (fun K' hK => ?_)
     go_simp
     refine (D2.out y2 hB2).mono ?_
     rintro e y3 ⟨rfl, hl1, hb3, k1⟩
     dsimp only
     have hB3 := hB2.trans (hb3.mono hB2.size)
     have hz3 := hb3.size
     have hl0 := hl0.below' hb3
     have hr := hr.below hb3 hr.lt
     refine hK.out _ _ (fun _ => HS.out _ hB3) (fun _ => ?_)
     clear hK K'
     (try simp only [Act.put, jq1, jq2, jq3])
     refine G_step (i := 7) (o := _) (by kernel_rfl) rfl (fun K' hK => ?_)
     go_simp
     refine (D3.out y3 hB3).mono ?_
     rintro e y4 ⟨rfl, hl2, hb4, k2⟩
     dsimp only
     have hB4 := hB3.trans (hb4.mono hB3.size)
     have hz4 := hb4.size
     have hl0 := hl0.below' hb4
     have hl1 := hl1.below' hb4
     have hr := hr.below hb4 hr.lt
     refine hK.out _ _ (fun _ => HS.out _ hB4) (fun _ => ?_)
     clear hK K'
     (try simp only [Act.put, jq1, jq2, jq3])
     refine G_tk (i := 8) (oi := { dst := some 41, op := Op.build 67 #[(0, Operand.tmp 35), (1, Operand.tmp 37), (3, Operand.tmp 40)], type := 67, pos := _, after := #[{ on := 2, ground := Ground.data }, { on := 4, ground := Ground.data }, { on := 7, ground := Ground.data }], guard := none }) (v := .agg #[.slice (some ⟨y1.heap.size, 0, none⟩) G G, .slice (some ⟨y2.heap.size, 0, none⟩) G G, .slice none 0 0, .slice (some ⟨y3.heap.size, 0, none⟩) K K]) (HS.out _ hB4) ?_
     (try simp only [Act.put, jq1, jq2, jq3])
     obtain ⟨f0, f1, f2, f3⟩ := hr.cells
     have g0 := hr.free 0
     have g1 := hr.free 1
     have g2 := hr.free 2
     have g3 := hr.free 3
     refine G_step (i := 10) (o := _) (by kernel_rfl) rfl (fun K' hK => ?_)
     go_simp
     have hbt : But y0.heap.size y4 ((((y4.setCell ⟨y0.heap.size, 0, none⟩ (.slice (some ⟨y1.heap.size, 0, none⟩) G G)).setCell ⟨y0.heap.size, 1, none⟩ (.slice (some ⟨y2.heap.size, 0, none⟩) G G)).setCell ⟨y0.heap.size, 2, none⟩ (.slice none 0 0)).setCell ⟨y0.heap.size, 3, none⟩ (.slice (some ⟨y3.heap.size, 0, none⟩) K K)) := ((((But.refl _ _).setCell _ _).setCell _ _).setCell _ _).setCell _ _
     have hrq := hr.set4 (.slice (some ⟨y1.heap.size, 0, none⟩) G G) (.slice (some ⟨y2.heap.size, 0, none⟩) G G) (.slice none 0 0) (.slice (some ⟨y3.heap.size, 0, none⟩) K K)
     generalize (((y4.setCell ⟨y0.heap.size, 0, none⟩ (.slice (some ⟨y1.heap.size, 0, none⟩) G G)).setCell ⟨y0.heap.size, 1, none⟩ (.slice (some ⟨y2.heap.size, 0, none⟩) G G)).setCell ⟨y0.heap.size, 2, none⟩ (.slice none 0 0)).setCell ⟨y0.heap.size, 3, none⟩ (.slice (some ⟨y3.heap.size, 0, none⟩) K K) = yf at *
     have hne0 : y1.heap.size ≠ y0.heap.size := by omega
     have hne1 : y2.heap.size ≠ y0.heap.size := by omega
     have hne2 : y3.heap.size ≠ y0.heap.size := by omega
     have hBf : Below u.heap.size u yf := hB4.trans (hbt.below (by omega) hB4.size)
     refine hK.out _ _ (fun _ => HS.out _ hBf) (fun _ => ?_)
     clear hK K' f0 f1 f2 f3 g0 g1 g2 g3
     (try simp only [Act.put, jq1, jq2, jq3])
     refine G_done (by kernel_rfl) ?_ _
     have HFIN : Hid (Below u.heap.size u yf ∧ Rq yf y0.heap.size (.slice (some ⟨y1.heap.size, 0, none⟩) G G) (.slice (some ⟨y2.heap.size, 0, none⟩) G G) (.slice none 0 0) (.slice (some ⟨y3.heap.size, 0, none⟩) K K) ∧ Ls yf y1.heap.size G (fun r => ofL (Z r) (L r)) ∧ Ls yf y2.heap.size G (fun r => ofL (fun i => (tl L Z G r).getD i 0) (tl L Z G r).length) ∧ Ls yf y3.heap.size K (fun r => ofL (FZ r) (FL r)) ∧ (u.heap.size ≤ y0.heap.size ∧ y0.heap.size < yf.heap.size) ∧ (u.heap.size ≤ y1.heap.size ∧ y1.heap.size < yf.heap.size ∧ y1.heap.size ≠ y0.heap.size) ∧ (u.heap.size ≤ y2.heap.size ∧ y2.heap.size < yf.heap.size ∧ y2.heap.size ≠ y0.heap.size) ∧ (u.heap.size ≤ y3.heap.size ∧ y3.heap.size < yf.heap.size ∧ y3.heap.size ≠ y0.heap.size)) :=
      hid ⟨hBf, hrq, hl0.but hbt hne0, hl1.but hbt hne1, hl2.but hbt hne2, by have := hbt.size; omega, by have := hbt.size; omega, by have := hbt.size; omega, by have := hbt.size; omega⟩
     clear hBf hrq hbt
     go_wp2_with fail
     go_meet
     exact ⟨y0.heap.size, y1.heap.size, y2.heap.size, y3.heap.size, rfl, HFIN⟩
   case rest =>
    obtain ⟨x10, nb, pb, fb, rfl, HC⟩ := hcut
    have hbc := HC.out.1
    have e0 := below_cell hbc jq0 p0
    have e1 := below_cell hbc jq0 p1
    have e2 := below_cell hbc jq0 p2
    have e3 := below_cell hbc jq0 p3
    have e4 := below_cell hbc jq0 p4
    have g0 := below_cell hbc jq0 d0
    have g1 := below_cell hbc jq0 d1
    have hszc : w.heap.size + 2 ≤ wc.heap.size := by have := hbc.size; omega
    have hx10 : w.heap.size + 2 ≤ x10 ∧ x10 < wc.heap.size := by have := HC.out.2.2.2.2.2.1; omega
    have HBc := hid (HBu.out.trans (hbc.mono HBu.out.size))
    clear p0 p1 p2 p3 p4 d0 d1 hbc D1 D2 D3 HS HGr
    obtain ⟨i0, hi, hz0, hz1, hz2⟩ := info_parts Tryz.infoS
    have HI : Hid (Tryz.prog.info? 69 = some i0 ∧ i0.zero = some (.agg (cellsS (fun _ => 0))) ∧ i0.size = 32 ∧ i0.bytes = 256) := ⟨hi, hz0, hz1, hz2⟩
    clear hi hz0 hz1 hz2
    obtain ⟨lb, lo, hla, hlc⟩ := HW.out.loop
    have HLC := hid hlc
    clear hlc
    go_wp2
    go_loopw [45] (fun i wr => ∃ (k : Nat) (fv : Value), k ≤ m ∧ i = .int .i64 k ∧ Hid (But x10 wc wr ∧ Rq wr x10 (.slice (some ⟨nb, 0, none⟩) G G) (.slice (some ⟨pb, 0, none⟩) G G) fv (.slice (some ⟨fb, 0, none⟩) K K) ∧ wr.ownsRow wc.heap.size 69 32 fv k (lsv (fun p => fitN Mu No (L' p).toNat M) k))) (fun i _ => m - (intOf i).toNat)
    case atStart => exact ⟨0, _, by omega, rfl, hid ⟨But.refl _ _, HC.out.2.1, World.ownsRow_nil _ _ _ _⟩⟩
    case round =>
     obtain ⟨k, fv, hk, rfl, HR⟩ := hrel
     by_cases hlt : k < m
     ·obtain rfl := hla (by omega)
      have hu64 := HW.out.lu k hlt
      obtain ⟨l, hle⟩ : ∃ l : Nat, L' k = l := ⟨(L' k).toNat, by omega⟩
      have hl64 : l < 18446744073709551616 := by omega
      have hcl : wr.cell? ⟨lb, lo + k, none⟩ = some (.int .u64 (l : Nat)) := by
       have h1 := below_cell HBc.out jq0 (HLC.out k hlt)
       rw [hle] at h1
       exact HR.out.1.cell (by have := World.block_lt_of_cell? _ _ (HLC.out k hlt); dsimp only at this ⊢; omega) h1
      have HLe := hid hle
      have HSk : Hid (∀ z, But x10 wc z → z.cell? ⟨x10, 2, none⟩ = some fv → (fun y => y.cell? ⟨x10, 2, none⟩ = some fv ∧ y.cell? ⟨w.heap.size, 0, none⟩ = some (.slice sa sn sc) ∧ y.cell? ⟨w.heap.size, 1, none⟩ = some (.slice na G nc) ∧ y.cell? ⟨w.heap.size, 2, none⟩ = some (.slice ma M mc) ∧ y.cell? ⟨w.heap.size, 3, none⟩ = some (.slice oa O oc) ∧ y.cell? ⟨w.heap.size, 4, none⟩ = some (.slice fa K fc)) z) := hid (fun z hb hz2 => by
       exact ⟨hz2, hb.cell (by dsimp only; omega) e0, hb.cell (by dsimp only; omega) e1, hb.cell (by dsimp only; omega) e2, hb.cell (by dsimp only; omega) e3, hb.cell (by dsimp only; omega) e4⟩)
      have hf2 := HR.out.2.1.cells.2.2.1
      have hS0 : (fun y => y.cell? ⟨x10, 2, none⟩ = some fv ∧ y.cell? ⟨w.heap.size, 0, none⟩ = some (.slice sa sn sc) ∧ y.cell? ⟨w.heap.size, 1, none⟩ = some (.slice na G nc) ∧ y.cell? ⟨w.heap.size, 2, none⟩ = some (.slice ma M mc) ∧ y.cell? ⟨w.heap.size, 3, none⟩ = some (.slice oa O oc) ∧ y.cell? ⟨w.heap.size, 4, none⟩ = some (.slice fa K fc)) wr.drew := HSk.out wr.drew (HR.out.1.trans ((Sm.refl wr).drew.but _)) hf2
      have hAwr : Aw wr ⟨sa, sn, sc, na, G, nc, ma, M, mc, oa, O, oc, fa, K, fc, S, L, Z, Mu, No, FL, FZ⟩ := H.out.below (HBc.out.trans (HR.out.1.below (by omega) HBc.out.size))
      have CF := hid (fitting_any ⟨sa, sn, sc, na, G, nc, ma, M, mc, oa, O, oc, fa, K, fc, S, L, Z, Mu, No, FL, FZ⟩ l wr.drew (hAwr.below ((Sm.refl wr).drew.below _)) hl64 (by have := HMO.out; dsimp only; omega) (by have := HMO.out; dsimp only; omega))
      dsimp only [Ax.val] at CF
      clear hle hu64
      go_wp2
      refine G_region (fun y => y.cell? ⟨x10, 2, none⟩ = some fv ∧ y.cell? ⟨w.heap.size, 0, none⟩ = some (.slice sa sn sc) ∧ y.cell? ⟨w.heap.size, 1, none⟩ = some (.slice na G nc) ∧ y.cell? ⟨w.heap.size, 2, none⟩ = some (.slice ma M mc) ∧ y.cell? ⟨w.heap.size, 3, none⟩ = some (.slice oa O oc) ∧ y.cell? ⟨w.heap.size, 4, none⟩ = some (.slice fa K fc)) (fun j => j == 8) (by kernel_rfl) hS0 (fun _ => ?_)
      refine G_tk (i := 0) (oi := { dst := some 49, op := Op.fieldAddr 67 (Operand.tmp 10) 2, type := 0, pos := _, after := #[], guard := none }) (v := .pointer (some ⟨x10, 2, none⟩)) hS0 ?_
      (try simp only [Act.put, jq1, jq2, jq3])
      refine G_tk (i := 1) (oi := { dst := some 50, op := Op.load 64 (Operand.tmp 49), type := 64, pos := _, after := #[{ on := 0, ground := Ground.data }], guard := none }) (v := fv) hS0 ?_
      (try simp only [Act.put, jq1, jq2, jq3])
      refine G_tk (i := 2) (oi := { dst := some 51, op := Op.load 32 (Operand.tmp 2), type := 32, pos := _, after := #[], guard := none }) (v := .agg #[.slice sa sn sc, .slice na G nc, .slice ma M mc, .slice oa O oc, .slice fa K fc]) hS0 ?_
      (try simp only [Act.put, jq1, jq2, jq3])
      refine G_tk (i := 3) (oi := { dst := some 52, op := Op.move (Operand.tmp 12), type := 48, pos := _, after := #[], guard := none }) (v := .int .u64 (l : Nat)) hS0 ?_
      (try simp only [Act.put, jq1, jq2, jq3])
      refine G_step (i := 4) (o := _) (by kernel_rfl) rfl (fun K' hK => ?_)
      go_simp
      refine CF.out.mono ?_
      rintro e y1 ⟨rfl, hb1⟩
      dsimp only
      have hS1 := HSk.out y1 ((HR.out.1.trans ((Sm.refl wr).drew.but _)).trans (But.of_below hb1)) (below_cell hb1 jq0 hf2)
      refine hK.out _ _ (fun _ => hS1) (fun _ => ?_)
      clear hK K'
      (try simp only [Act.put, jq1, jq2, jq3])
      refine G_step (i := 5) (o := _) (by kernel_rfl) rfl (fun K' hK => ?_)
      rw [if_pos (by rfl)]
      refine op_build _ rfl (fitN Mu No l M) rfl ?_
      have hbxn := bx_new y1 (fitN Mu No l M) (fitN_small (by have := HMO.out; omega))
      have hbn := box_below y1 (.cells (cellsS (fitN Mu No l M)) 69)
      have hsn : (y1.alloc (.cells (cellsS (fitN Mu No l M)) 69)).heap.size = y1.heap.size + 1 := by simp
      generalize y1.alloc (.cells (cellsS (fitN Mu No l M)) 69) = y2 at *
      have hb2 : But x10 wc y2 := ((HR.out.1.trans ((Sm.refl wr).drew.but _)).trans (But.of_below hb1)).trans (But.of_below hbn)
      have hf22 := below_cell hbn jq0 (below_cell hb1 jq0 hf2)
      have hS2 := HSk.out y2 hb2 hf22
      refine hK.out _ _ (fun _ => hS2) (fun _ => ?_)
      clear hK K'
      (try simp only [Act.put, jq1, jq2, jq3])
      refine G_step (i := 6) (o := _) (by kernel_rfl) rfl (fun K' hK => ?_)
      rw [if_pos (by rfl)]
      have hown2 := owns_below (owns_below (owns_below HR.out.2.2 ((Sm.refl wr).drew.below _)) hb1) hbn
      have hsz2 : wc.heap.size ≤ y2.heap.size := hb2.size
      refine op_append _ _ 64 rfl wc.heap.size 69 i0 _ 32 256 Tryz.underlying64 HI.out.1 HI.out.2.1 HI.out.2.2.1 HI.out.2.2.2 zS_size (by decide) fv k _ rfl hown2 ⟨y1.heap.size, 0, none⟩ 1 1 (cellsS (fitN Mu No l M)).toList rfl (by simp [cellsS_size]) (cellsS_news hbxn) (fun u hu => (Array.all_eq_true_iff_forall_mem.1 (cellsS_one _)) u (by simpa using hu)) (by unfold maxLen; omega) (by omega) hsz2 ?_
      intro fv' y3 hown' hgrow
      have hb3 := grow_below hown2 hsz2 hgrow
      have hr3 : Rq y3 x10 (.slice (some ⟨nb, 0, none⟩) G G) (.slice (some ⟨pb, 0, none⟩) G G) fv (.slice (some ⟨fb, 0, none⟩) K K) := ((((HR.out.2.1 : Rq wr x10 (.slice (some ⟨nb, 0, none⟩) G G) (.slice (some ⟨pb, 0, none⟩) G G) fv (.slice (some ⟨fb, 0, none⟩) K K)).below ((Sm.refl wr).drew.below _) HR.out.2.1.lt).below hb1 (by have := HR.out.2.1.lt; exact this)).below hbn (by have := HR.out.2.1.lt; have := hb1.size; exact Nat.lt_of_lt_of_le HR.out.2.1.lt hb1.size)).below hb3 (by omega)
      have hB3 : But x10 wc y3 := ⟨hb3.os.trans hb2.os, hb3.tape.trans hb2.tape, hb3.output.trans hb2.output, Nat.le_trans hb2.size hb3.size, fun q h1 h2 => (hb3.block q h1).trans (hb2.block q h1 h2)⟩
      obtain ⟨f0, f1, f2, f3⟩ := hr3.cells
      have f9 := hr3.free 2
      have hS3 := HSk.out y3 hB3 f2
      obtain ⟨fg, fcap, rfl⟩ := owns_some hown'
      refine hK.out _ _ (fun _ => hS3) (fun _ => ?_)
      clear hK K'
      (try simp only [Act.put, jq1, jq2, jq3])
      refine G_tk (i := 7) (oi := { dst := some 56, op := Op.fieldAddr 67 (Operand.tmp 10) 2, type := 0, pos := _, after := #[{ on := 0, ground := Ground.phase }, { on := 1, ground := Ground.phase }, { on := 2, ground := Ground.phase }, { on := 3, ground := Ground.phase }, { on := 4, ground := Ground.phase }, { on := 5, ground := Ground.phase }, { on := 6, ground := Ground.phase }], guard := none }) (v := .pointer (some ⟨x10, 2, none⟩)) hS3 ?_
      (try simp only [Act.put, jq1, jq2, jq3])
      refine G_step (i := 8) (o := _) (by kernel_rfl) rfl (fun K' hK => ?_)
      go_simp
      refine hK.out _ _ (fun h => by cases h) (fun _ => ?_)
      clear hK K'
      (try simp only [Act.put, jq1, jq2, jq3])
      refine G_done (by kernel_rfl) ?_ _
      have HFIN : Hid (But x10 wc (y3.setCell ⟨x10, 2, none⟩ (.slice (some ⟨fg, 0, none⟩) (k + 1) fcap)) ∧ Rq (y3.setCell ⟨x10, 2, none⟩ (.slice (some ⟨fg, 0, none⟩) (k + 1) fcap)) x10 (.slice (some ⟨nb, 0, none⟩) G G) (.slice (some ⟨pb, 0, none⟩) G G) (.slice (some ⟨fg, 0, none⟩) (k + 1) fcap) (.slice (some ⟨fb, 0, none⟩) K K) ∧ (y3.setCell ⟨x10, 2, none⟩ (.slice (some ⟨fg, 0, none⟩) (k + 1) fcap)).ownsRow wc.heap.size 69 32 (.slice (some ⟨fg, 0, none⟩) (k + 1) fcap) (k + 1) (lsv (fun p => fitN Mu No (L' p).toNat M) (k + 1))) := by
       refine hid ⟨hB3.setCell _ _, hr3.set2 _, ?_⟩
       have e : lsv (fun p => fitN Mu No (L' p).toNat M) (k + 1) = lsv (fun p => fitN Mu No (L' p).toNat M) k ++ (cellsS (fitN Mu No l M)).toList := by rw [lsv, HLe.out]; rfl
       rw [e]
       exact ownsRow_setCell_below hown' (by exact hx10.2) _
      clear hS3 f0 f1 f2 f3 f9 hB3 hr3 hb3 hgrow hown' hown2 hS2 hf22 hb2 hbn hbxn hsn hS1 hb1 hS0 hf2 hsz2
      generalize y3.setCell ⟨x10, 2, none⟩ (.slice (some ⟨fg, 0, none⟩) (k + 1) fcap) = y4 at *
      go_wp2
      go_roundw
      case rel => exact ⟨k + 1, _, by omega, by go_num, HFIN⟩
      case measure => simp [intOf]; omega
     ·have hmk : m = k := by omega
      subst hmk
      have hMG := HMO.out
      obtain ⟨tb, c3, rfl, htb1, htb2, hlsT⟩ := owns_ls (fun i hi j hj => fitN_small (by omega) j hj) hm0 HR.out.2.2
      have hrq := HR.out.2.1
      have hBwr : Below w.heap.size w wr := HBc.out.trans (HR.out.1.below (by omega) HBc.out.size)
      have hC := HC.out
      have HRw : Hid (Rw wr ⟨nb, G, G, pb, G, tb, m, c3, fb, K, K, fun r => ofL (Z r) (L r), fun r => ofL (fun i => (tl L Z G r).getD i 0) (tl L Z G r).length, fun p => fitN Mu No (L' p).toNat M, fun r => ofL (FZ r) (FL r)⟩) := hid ⟨hC.2.2.1.but HR.out.1 hC.2.2.2.2.2.2.1.2.2, hC.2.2.2.1.but HR.out.1 hC.2.2.2.2.2.2.2.1.2.2, hlsT, hC.2.2.2.2.1.but HR.out.1 hC.2.2.2.2.2.2.2.2.2.2, hG, hm0, by dsimp only; omega, hK80, fun j hj => below_cell hBwr jq0 (HT.out j hj), by have := HR.out.1.size; dsimp only; omega⟩
      have HAwr := hid (H.out.below hBwr)
      have HBwr := hid hBwr
      have CS := hid (setOf_any sa sn sc S wr H.out.s47 HAwr.out.start (fun i hi => by have := HS0.out i hi; omega))
      have f0 := HR.out.1.cell (p := ⟨w.heap.size, 0, none⟩) (by dsimp only; omega) e0
      have f1 := HR.out.1.cell (p := ⟨w.heap.size, 1, none⟩) (by dsimp only; omega) e1
      have f2 := HR.out.1.cell (p := ⟨w.heap.size, 2, none⟩) (by dsimp only; omega) e2
      have f3 := HR.out.1.cell (p := ⟨w.heap.size, 3, none⟩) (by dsimp only; omega) e3
      have f4 := HR.out.1.cell (p := ⟨w.heap.size, 4, none⟩) (by dsimp only; omega) e4
      have h0s := HR.out.1.cell (p := ⟨w.heap.size + 1, 0, none⟩) (by dsimp only; omega) g0
      have hszr : wc.heap.size ≤ wr.heap.size := HR.out.1.size
      have HRq := hid hrq
      have HTB := hid (And.intro htb1 htb2)
      clear e0 e1 e2 e3 e4 g0 g1 hBwr hC hlsT HLC hMG hrq htb1 htb2
      go_wp2_with fail
      refine CS.out.mono ?_
      rintro e w5 ⟨rfl, hb5⟩
      have hbz : Bx (w5.alloc (.cells #[.int .u64 0, .int .u64 0, .int .u64 0, .int .u64 0, .int .u64 0, .int .u64 0, .int .u64 0, .int .u64 0, .int .u64 0, .int .u64 0, .int .u64 0, .int .u64 0, .int .u64 0, .int .u64 0, .int .u64 0, .int .u64 0, .int .u64 0, .int .u64 0, .int .u64 0, .int .u64 0, .int .u64 0, .int .u64 0, .int .u64 0, .int .u64 0, .int .u64 0, .int .u64 0, .int .u64 0, .int .u64 0, .int .u64 0, .int .u64 0, .int .u64 0, .int .u64 0] 69)) w5.heap.size (fun _ => 0) := bx_new w5 (fun _ => 0) (fun _ _ => by decide)
      have hbz2 := box_below w5 (.cells #[.int .u64 0, .int .u64 0, .int .u64 0, .int .u64 0, .int .u64 0, .int .u64 0, .int .u64 0, .int .u64 0, .int .u64 0, .int .u64 0, .int .u64 0, .int .u64 0, .int .u64 0, .int .u64 0, .int .u64 0, .int .u64 0, .int .u64 0, .int .u64 0, .int .u64 0, .int .u64 0, .int .u64 0, .int .u64 0, .int .u64 0, .int .u64 0, .int .u64 0, .int .u64 0, .int .u64 0, .int .u64 0, .int .u64 0, .int .u64 0, .int .u64 0, .int .u64 0] 69)
      have HZ5 := hid (And.intro hbz hbz2)
      have hsm0 : ∀ i, i < 32 → ofL S sn i < 18446744073709551616 := ofL_small (fun i hi => by have := HS0.out i hi; omega)
      have HSM := hid hsm0
      have HB5 := hid hb5
      have hsz5 : wr.heap.size ≤ w5.heap.size := hb5.size
      clear hbz hbz2 hsm0 hb5
      go_wp2_with (refine wl_store rfl _ _ rfl w5.heap.size (ofL S sn) rfl rfl (fun _ => 0) HZ5.out.1 HSM.out ?_; intro w6 hb6 hs6 hx6; have h06 : w6.cell? ⟨w.heap.size + 1, 0, none⟩ = some (.slice wsa s wsc) := hb6.cell (by dsimp only; omega) (below_cell HZ5.out.2 jq0 (below_cell HB5.out jq0 h0s)); have H6 := hid (And.intro hb6 (And.intro hs6 hx6)); clear hb6 hs6 hx6)
      obtain ⟨bb, hbb⟩ : ∃ bb, bb = w5.heap.size := ⟨_, rfl⟩
      have hbt6 : But bb wr w6 := by rw [hbb]; exact ((But.of_below HB5.out).trans (But.of_below HZ5.out.2)).trans H6.out.1
      have hx6 : Bx w6 bb (ofL S sn) := by rw [hbb]; exact H6.out.2.2
      have hbbr : wr.heap.size ≤ bb ∧ bb < w6.heap.size := by have := bx_lt hx6; omega
      have HX6 := hid hx6
      have HB6 := hid hbt6
      rw [← hbb]
      clear hbb hbt6 hx6 H6 HZ5 HB5 CS h0s
      obtain ⟨sb, so, hsa2, hsc2⟩ := HW.out.stem
      have HSC := hid hsc2
      clear hsc2
      have hbx10 : bb ≠ x10 := by omega
      obtain ⟨wz, rfl⟩ : ∃ wz, wz = wr := ⟨wr, rfl⟩
      go_loopw [64] (fun i w7 => ∃ (k : Nat) (x : Nat → Nat), k ≤ s ∧ i = .int .i64 k ∧ Hid (But bb wz w7 ∧ Bx w7 bb x ∧ (∀ q, q < 2048 → mem x q = true → q < G) ∧ (∀ q, q < G → (mem x q = true ↔ bgP (autA ⟨sa, sn, sc, na, G, nc, ma, M, mc, oa, O, oc, fa, K, fc, S, L, Z, Mu, No, FL, FZ⟩) (ltr s m S' L') k q)))) (fun i _ => s - (intOf i).toNat)
      case atStart =>
       have hb0 : ∀ i, i < sn → 0 ≤ S i ∧ S i < 2048 := fun i hi => by have := HS0.out i hi; omega
       refine ⟨0, ofL S sn, by omega, rfl, hid ⟨HB6.out, HX6.out, fun q hq hm => ?_, fun q hq => ?_⟩⟩
       ·rw [mem_ofL q hb0] at hm
        unfold has at hm
        rw [decide_eq_true_eq] at hm
        obtain ⟨i, h1, h2⟩ := hm
        have := HS0.out i h1
        omega
       ·rw [mem_ofL q hb0]
        exact Iff.rfl
      case round =>
       obtain ⟨k, x, hk2, rfl, H7⟩ := hrel
       by_cases hlt2 : k < s
       ·obtain rfl := hsa2 (by omega)
        have hu64 := HW.out.su k hlt2
        obtain ⟨l, hle⟩ : ∃ l : Nat, S' k = l := ⟨(S' k).toNat, by omega⟩
        have hl64 : l < 18446744073709551616 := by omega
        have hblt : sb < w.heap.size := World.block_lt_of_cell? _ _ (HSC.out k hlt2)
        have hcl : wr.cell? ⟨sb, so + k, none⟩ = some (.int .u64 (l : Nat)) := by
         have h1 := below_cell HBwr.out jq0 (HSC.out k hlt2)
         rw [hle] at h1
         exact H7.out.1.cell (by dsimp only; omega) h1
        have HLe := hid hle
        have hAr : Aw wr ⟨sa, sn, sc, na, G, nc, ma, M, mc, oa, O, oc, fa, K, fc, S, L, Z, Mu, No, FL, FZ⟩ := H.out.below (HBwr.out.trans (H7.out.1.below (by omega) HBwr.out.size))
        have CF := hid (fitting_any ⟨sa, sn, sc, na, G, nc, ma, M, mc, oa, O, oc, fa, K, fc, S, L, Z, Mu, No, FL, FZ⟩ l wr hAr hl64 (by have := HMO.out; dsimp only; omega) (by have := HMO.out; dsimp only; omega))
        dsimp only [Ax.val] at CF
        have k0 := H7.out.1.cell (p := ⟨w.heap.size, 0, none⟩) (by dsimp only; omega) f0
        have k1 := H7.out.1.cell (p := ⟨w.heap.size, 1, none⟩) (by dsimp only; omega) f1
        have k2 := H7.out.1.cell (p := ⟨w.heap.size, 2, none⟩) (by dsimp only; omega) f2
        have k3 := H7.out.1.cell (p := ⟨w.heap.size, 3, none⟩) (by dsimp only; omega) f3
        have k4 := H7.out.1.cell (p := ⟨w.heap.size, 4, none⟩) (by dsimp only; omega) f4
        clear hle hu64 hAr
        go_wp2_with fail
        refine CF.out.mono ?_
        rintro e w8 ⟨rfl, hb8⟩
        have hsm8 : ∀ i, i < 32 → fitN Mu No l M i < 18446744073709551616 := fitN_small (by have := HMO.out; omega)
        have hbz : Bx (w8.alloc (.cells #[.int .u64 0, .int .u64 0, .int .u64 0, .int .u64 0, .int .u64 0, .int .u64 0, .int .u64 0, .int .u64 0, .int .u64 0, .int .u64 0, .int .u64 0, .int .u64 0, .int .u64 0, .int .u64 0, .int .u64 0, .int .u64 0, .int .u64 0, .int .u64 0, .int .u64 0, .int .u64 0, .int .u64 0, .int .u64 0, .int .u64 0, .int .u64 0, .int .u64 0, .int .u64 0, .int .u64 0, .int .u64 0, .int .u64 0, .int .u64 0, .int .u64 0, .int .u64 0] 69)) w8.heap.size (fun _ => 0) := bx_new w8 (fun _ => 0) (fun _ _ => by decide)
        have hbz2 := box_below w8 (.cells #[.int .u64 0, .int .u64 0, .int .u64 0, .int .u64 0, .int .u64 0, .int .u64 0, .int .u64 0, .int .u64 0, .int .u64 0, .int .u64 0, .int .u64 0, .int .u64 0, .int .u64 0, .int .u64 0, .int .u64 0, .int .u64 0, .int .u64 0, .int .u64 0, .int .u64 0, .int .u64 0, .int .u64 0, .int .u64 0, .int .u64 0, .int .u64 0, .int .u64 0, .int .u64 0, .int .u64 0, .int .u64 0, .int .u64 0, .int .u64 0, .int .u64 0, .int .u64 0] 69)
        have HZ8 := hid (And.intro hbz hbz2)
        have HSM8 := hid hsm8
        have HB8 := hid hb8
        have hsz8 : wr.heap.size ≤ w8.heap.size := hb8.size
        clear hbz hbz2 hsm8 hb8 k0 k1 k2 k3 k4 CF hcl
        go_wp2_with (refine wl_store rfl _ _ rfl w8.heap.size (fitN Mu No l M) rfl rfl (fun _ => 0) HZ8.out.1 HSM8.out ?_; intro w9 hb9 hs9 hx9; have H9 := hid (And.intro hb9 (And.intro hs9 hx9)); clear hb9 hs9 hx9)
        have hbn : bb ≠ w8.heap.size := by have := bx_lt H7.out.2.1; omega
        have hBz : But bb wz w9.drew := ((((H7.out.1.trans (But.of_below HB8.out)).trans (But.of_below HZ8.out.2)).trans_new H9.out.1 (by have := H7.out.1.size; omega))).trans ((Sm.refl _).drew.but _)
        have hxz : Bx w9.drew bb x := (((H7.out.2.1.below HB8.out (bx_lt H7.out.2.1)).below HZ8.out.2 (by have := bx_lt H7.out.2.1; omega)).but H9.out.1 hbn).drew
        have hfz : Bx w9.drew w8.heap.size (fitN Mu No l M) := H9.out.2.2.drew
        have CM := hid (meet_any bb 0 w8.heap.size 0 x (fitN Mu No l M) w9.drew hxz.st hfz.st)
        have HRz : Hid (∀ z, But bb wz z → Rw z ⟨nb, G, G, pb, G, tb, m, c3, fb, K, K, fun r => ofL (Z r) (L r), fun r => ofL (fun i => (tl L Z G r).getD i 0) (tl L Z G r).length, fun p => fitN Mu No (L' p).toNat M, fun r => ofL (FZ r) (FL r)⟩) := hid (fun z hz => HRw.out.below (hz.below hbbr.1 jq0))
        have CB := hid (fun (z : World) (hz : But bb wz z) => behind_any ⟨nb, G, G, pb, G, tb, m, c3, fb, K, K, fun r => ofL (Z r) (L r), fun r => ofL (fun i => (tl L Z G r).getD i 0) (tl L Z G r).length, fun p => fitN Mu No (L' p).toNat M, fun r => ofL (FZ r) (FL r)⟩ (sand x (fitN Mu No l M)) z (HRz.out z hz) (fun i hi => Nat.lt_of_le_of_lt Nat.and_le_left (hxz.small i hi)) (fun q h1 h2 => H7.out.2.2.1 q h1 (by rw [mem_and, Bool.and_eq_true] at h2; exact h2.1)))
        dsimp only [Rx.val] at CB
        have HSk : Hid (∀ z, But bb wz z → (fun y => y.cell? ⟨x10, 0, none⟩ = some (.slice (some ⟨nb, 0, none⟩) G G) ∧ y.cell? ⟨x10, 1, none⟩ = some (.slice (some ⟨pb, 0, none⟩) G G) ∧ y.cell? ⟨x10, 2, none⟩ = some (.slice (some ⟨tb, 0, none⟩) m c3) ∧ y.cell? ⟨x10, 3, none⟩ = some (.slice (some ⟨fb, 0, none⟩) K K)) z) := hid (fun z hz => (Rq.below HRq.out (hz.below hbbr.1 jq0) HRq.out.lt).cells)
        have hS0 : (fun y => y.cell? ⟨x10, 0, none⟩ = some (.slice (some ⟨nb, 0, none⟩) G G) ∧ y.cell? ⟨x10, 1, none⟩ = some (.slice (some ⟨pb, 0, none⟩) G G) ∧ y.cell? ⟨x10, 2, none⟩ = some (.slice (some ⟨tb, 0, none⟩) m c3) ∧ y.cell? ⟨x10, 3, none⟩ = some (.slice (some ⟨fb, 0, none⟩) K K)) w9.drew := HSk.out _ hBz
        have HBz := hid hBz
        have HXz := hid hxz
        clear hBz hxz hfz HZ8 HB8 H9 HSM8
        refine G_region (fun y => y.cell? ⟨x10, 0, none⟩ = some (.slice (some ⟨nb, 0, none⟩) G G) ∧ y.cell? ⟨x10, 1, none⟩ = some (.slice (some ⟨pb, 0, none⟩) G G) ∧ y.cell? ⟨x10, 2, none⟩ = some (.slice (some ⟨tb, 0, none⟩) m c3) ∧ y.cell? ⟨x10, 3, none⟩ = some (.slice (some ⟨fb, 0, none⟩) K K)) (fun _ => false) (by kernel_rfl) hS0 (fun _ => ?_)
        (try simp only [Act.put])
        refine G_tk (i := 0) (oi := { dst := some 71, op := Op.load 67 (Operand.tmp 10), type := 67, pos := _, after := #[], guard := none }) (v := .agg #[.slice (some ⟨nb, 0, none⟩) G G, .slice (some ⟨pb, 0, none⟩) G G, .slice (some ⟨tb, 0, none⟩) m c3, .slice (some ⟨fb, 0, none⟩) K K]) hS0 ?_
        (try simp only [Act.put, jq1, jq2, jq3])
        refine G_step (i := 1) (o := _) (by kernel_rfl) rfl (fun K' hK => ?_)
        go_simp
        refine CM.out.mono ?_
        rintro e z1 ⟨rfl, hzb1⟩
        dsimp only
        have hS1 := HSk.out z1 (HBz.out.trans (But.of_below hzb1))
        refine hK.out _ _ (fun _ => hS1) (fun _ => ?_)
        clear hK K'
        (try simp only [Act.put, jq1, jq2, jq3])
        refine G_step (i := 2) (o := _) (by kernel_rfl) rfl (fun K' hK => ?_)
        go_simp
        refine (CB.out z1 (HBz.out.trans (But.of_below hzb1))).mono ?_
        rintro e z2 ⟨⟨y, rfl, hys, hym⟩, hzb2⟩
        dsimp only
        have hbz2 := (HBz.out.trans (But.of_below hzb1)).trans (But.of_below hzb2)
        have hS2 := HSk.out z2 hbz2
        refine hK.out _ _ (fun _ => hS2) (fun _ => ?_)
        clear hK K'
        (try simp only [Act.put, jq1, jq2, jq3])
        refine G_step (i := 3) (o := _) (by kernel_rfl) rfl (fun K' hK => ?_)
        rw [if_pos (by rfl)]
        have hxz2 := (HXz.out.below hzb1 (bx_lt HXz.out)).below hzb2 (Nat.lt_of_lt_of_le (bx_lt HXz.out) hzb1.size)
        refine wp_store_mid 69 _ _ rfl bb 0 (cellsS y) rfl rfl (by rw [cellsS_size]; exact hxz2.there) (by rw [Tryz.info69, cellsS_size]) (cellsS_one y) ?_
        have hx3 := setCells_blk hxz2 hys
        have hb3 := (setCells_but bb (cellsS y).toList 0 z2).1
        generalize z2.setCells bb 0 (cellsS y).toList = z3 at *
        refine hK.out _ _ (fun _ => HSk.out z3 (hbz2.trans hb3)) (fun _ => ?_)
        clear hK K'
        (try simp only [Act.put])
        refine G_done (by kernel_rfl) ?_ _
        have HF3 := hid (And.intro (hbz2.trans hb3) (And.intro hx3 hym))
        clear hx3 hb3 hbz2 hxz2 hS0 hS1 hS2 hzb1 hzb2 hym hys
        go_wp2
        go_roundw
        case rel =>
         have hbdZ : ∀ q', q' < G → ∀ i, i < L q' → 0 ≤ Z q' i ∧ Z q' i < 2048 := fun q' h1 i hi => by have := HZ.out q' h1 i hi; omega
         refine ⟨k + 1, y, by omega, by go_num, hid ⟨HF3.out.1, HF3.out.2.1, fun q hq hm => ?_, fun q hq => ?_⟩⟩
         ·obtain ⟨s', h1, h2, h3⟩ := (HF3.out.2.2 q).1 hm
          rw [mem_and, Bool.and_eq_true] at h2
          have h4 := H7.out.2.2.1 s' h1 h2.1
          rw [mem_ofL q (hbdZ s' h4)] at h3
          unfold has at h3
          rw [decide_eq_true_eq] at h3
          obtain ⟨i, h5, h6⟩ := h3
          have := HZ.out s' h4 i h5
          omega
         ·rw [HF3.out.2.2 q]
          have ho : (ltr s m S' L' k).toNat = l := by rw [ltr_stem hlt2, HLe.out]; rfl
          constructor
          ·rintro ⟨s', h1, h2, h3⟩
           rw [mem_and, Bool.and_eq_true, mem_fitN, Bool.and_eq_true, decide_eq_true_eq] at h2
           have h4 := H7.out.2.2.1 s' h1 h2.1
           rw [mem_ofL q (hbdZ s' h4)] at h3
           refine ⟨s', (H7.out.2.2.2 s' h4).1 h2.1, ⟨h4, ?_⟩, h4, h3⟩
           rw [ho]; exact h2.2.2
          ·rintro ⟨s', h1, h2, h3⟩
           have h4 : s' < G := h3.1
           refine ⟨s', by omega, ?_, ?_⟩
           ·rw [mem_and, Bool.and_eq_true, mem_fitN, Bool.and_eq_true, decide_eq_true_eq]
            have h5 := h2.2
            rw [ho] at h5
            exact ⟨(H7.out.2.2.2 s' h4).2 h1, by have := HMO.out; omega, h5⟩
           ·rw [mem_ofL q (hbdZ s' h4)]
            exact h3.2
        case measure => simp [intOf]; omega
       ·have hks : s = k := by omega
        subst hks
        have hRz : Rw wr ⟨nb, G, G, pb, G, tb, m, c3, fb, K, K, fun r => ofL (Z r) (L r), fun r => ofL (fun i => (tl L Z G r).getD i 0) (tl L Z G r).length, fun p => fitN Mu No (L' p).toNat M, fun r => ofL (FZ r) (FL r)⟩ := HRw.out.below (H7.out.1.below hbbr.1 jq0)
        have hRk : Rk ⟨nb, G, G, pb, G, tb, m, c3, fb, K, K, fun r => ofL (Z r) (L r), fun r => ofL (fun i => (tl L Z G r).getD i 0) (tl L Z G r).length, fun p => fitN Mu No (L' p).toNat M, fun r => ofL (FZ r) (FL r)⟩ := by
         constructor
         ·intro a b ha hb
          dsimp only at ha hb ⊢
          rw [mem_ofL b (tl_bd L Z G a hG), mem_ofL a (fun i hi => by have := HZ.out b hb i hi; omega), Bool.eq_iff_iff, has_tl]
          exact ⟨fun h => h.2, fun h => ⟨hb, h⟩⟩
         ·intro p hp q hq hm
          dsimp only at hm ⊢
          rw [mem_fitN, Bool.and_eq_true, decide_eq_true_eq] at hm
          have := HMO.out
          omega
        have CA := hid (acceptFrom_any ⟨nb, G, G, pb, G, tb, m, c3, fb, K, K, fun r => ofL (Z r) (L r), fun r => ofL (fun i => (tl L Z G r).getD i 0) (tl L Z G r).length, fun p => fitN Mu No (L' p).toNat M, fun r => ofL (FZ r) (FL r)⟩ x wr hRz hRk H7.out.2.1.small)
        dsimp only [Rx.val] at CA
        obtain ⟨k0, k1, k2, k3⟩ := (Rq.below HRq.out (H7.out.1.below hbbr.1 jq0) HRq.out.lt).cells
        have hxs := hid H7.out.2.1.st
        clear hRz hRk
        go_wp2_with (first | (refine wl_load rfl _ rfl bb 0 rfl _ hxs.out ?_) | (go_at_call 30; refine CA.out.mono ?_; rintro e w8 ⟨⟨b, rfl, hb⟩, hb8⟩; have HB8 := hid (And.intro hb hb8); clear hb hb8))
        go_ret2
        have herr : erA ⟨sa, sn, sc, na, G, nc, ma, M, mc, oa, O, oc, fa, K, fc, S, L, Z, Mu, No, FL, FZ⟩ s m = 0 := (if_pos HER.out).trans HE2.out
        refine ⟨⟨b, by rw [herr]; rfl, fun h => absurd herr h, fun _ => ?_⟩, (HBwr.out.trans (H7.out.1.below (by omega) HBwr.out.size)).trans (HB8.out.2.mono (by have := HBwr.out.size; have := H7.out.1.size; omega))⟩
        rw [HB8.out.1, acc_stem (autA ⟨sa, sn, sc, na, G, nc, ma, M, mc, oa, O, oc, fa, K, fc, S, L, Z, Mu, No, FL, FZ⟩) (ltr s m S' L') s]
        have hsh : (fun j => ltr s m S' L' (s + j)) = ltr 0 m S' L' := by
         funext j
         rw [ltr_far (by omega), ltr_far (by omega)]
         congr 1
         rw [show s + j - s = j by omega, Nat.sub_zero]
        rw [hsh]
        refine afs_acc (R := ⟨nb, G, G, pb, G, tb, m, c3, fb, K, K, fun r => ofL (Z r) (L r), fun r => ofL (fun i => (tl L Z G r).getD i 0) (tl L Z G r).length, fun p => fitN Mu No (L' p).toNat M, fun r => ofL (FZ r) (FL r)⟩) (A := ⟨sa, sn, sc, na, G, nc, ma, M, mc, oa, O, oc, fa, K, fc, S, L, Z, Mu, No, FL, FZ⟩) (L := L') ⟨rfl, rfl, hm0, fun q hq t => ?_, fun p hp q => ?_, fun k' hk' q => ?_⟩ S' x _ H7.out.2.2.2 hG
        ·dsimp only at hq ⊢
         exact mem_ofL t (fun i hi => by have := HZ.out q hq i hi; omega)
        ·dsimp only
         rw [mem_fitN, HMO.out.1]
        ·dsimp only at hk' ⊢
         exact mem_ofL q (fun i hi => by have := HFZ.out k' hk' i hi; omega)
  ·have hne : (e2 != 0) = true := by simp [h2]
   go_wp2
   go_ret2
   refine ⟨⟨false, ?_, fun _ => rfl, fun hh => ?_⟩, HB3.out⟩
   ·have : erA ⟨sa, sn, sc, na, G, nc, ma, M, mc, oa, O, oc, fa, K, fc, S, L, Z, Mu, No, FL, FZ⟩ s m = e2 := (if_pos HER.out).trans HE2.out
    rw [this]; rfl
   ·have : erA ⟨sa, sn, sc, na, G, nc, ma, M, mc, oa, O, oc, fa, K, fc, S, L, Z, Mu, No, FL, FZ⟩ s m = e2 := (if_pos HER.out).trans HE2.out
    exact absurd (this.symm.trans hh) h2
 ·have hne : (er != 0) = true := by simp [h0]
  go_enter Tryz.func9, Tryz.ntmps9
  go_wp2_with fail
  refine C1.out.mono ?_
  rintro e w2 ⟨rfl, hb2⟩
  have HB2 := hid (HB1.out.trans (hb2.mono HB1.out.size))
  clear hb2
  go_wp2
  go_ret2
  have hE : erA ⟨sa, sn, sc, na, G, nc, ma, M, mc, oa, O, oc, fa, K, fc, S, L, Z, Mu, No, FL, FZ⟩ s m = er := (if_neg (fun hh => h0 (HER.out.symm.trans hh))).trans HER.out
  refine ⟨⟨false, ?_, fun _ => rfl, fun hh => ?_⟩, HB2.out⟩
  ·rw [hE]; rfl
  ·exact absurd (hE.symm.trans hh) h0
end Go.Proofs.YtmdpbaobihdgkaaGreatDoor
