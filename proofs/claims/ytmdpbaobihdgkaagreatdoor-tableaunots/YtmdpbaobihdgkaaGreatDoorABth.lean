
import Derived.Test.YtmdpbaobihdgkaaGreatDoorACrs
import Derived.Test.YtmdpbaobihdgkaaGreatDoorAGth42J
/- The closures of Both; where. -/
set_option linter.unusedSimpArgs false
namespace Go.Proofs.YtmdpbaobihdgkaaGreatDoor
open Go.RowKit Go.Shelf Go.Maps
def bX (A B : Ax) : Nat × Nat → List (Nat × Nat) := bNx (a_okB A B) (aNx A) (aNx B)
def bS (A B : Ax) : List (Nat × Nat) := crs (a_okB A B) (aSt A) (aSt B)
def bP (A B : Ax) (p : Nat × Nat) : Prop := p.1 < A.G ∧ p.2 < B.G
def bL (A B : Ax) (k : Nat) : List (Nat × Nat) := gQ (bX A B) (bS A B) k
theorem bP_start {A B : Ax} (hA : chkA A = 0) (hB : chkA B = 0) : ∀ p ∈ bS A B, bP A B p := fun p hp => by
 obtain ⟨x, y⟩ := p
 obtain ⟨h1, h2, _⟩ := mem_crs.1 hp
 exact ⟨aSt_lt hA h1, aSt_lt hB h2⟩
theorem bP_next {A B : Ax} (hA : chkA A = 0) (hB : chkA B = 0) (p : Nat × Nat) (hp : bP A B p) : ∀ q ∈ bX A B p, bP A B q := fun q hq => by
 obtain ⟨x, y⟩ := q
 obtain ⟨h1, h2, _⟩ := mem_crs.1 hq
 exact ⟨aNx_lt hA hp.1 h1, aNx_lt hB hp.2 h2⟩
theorem bP_sml {A B : Ax} (hA : chkA A = 0) (hB : chkA B = 0) {p : Nat × Nat} (hp : bP A B p) : Sml p := by
 obtain ⟨h1, _⟩ := chkA_ok hA
 obtain ⟨h2, _⟩ := chkA_ok hB
 exact ⟨by have := hp.1; omega, by have := hp.2; omega⟩
theorem bL_all {A B : Ax} (hA : chkA A = 0) (hB : chkA B = 0) (k : Nat) : ∀ p ∈ bL A B k, bP A B p := fun p hp => by
 refine nRun_all (P := bP A B) (bP_next hA hB) k 0 (fun x hx => ?_) p hp
 rcases (mem_nAdds _ _).1 hx with hx | hx
 ·cases hx
 ·exact bP_start hA hB x hx
theorem crs_len (ok : Nat → Nat → Bool) (ss : List Nat) : ∀ fs : List Nat, (crs ok fs ss).length ≤ fs.length * ss.length
 | [] => by simp [crs]
 | x :: fs => by
  have e : crs ok (x :: fs) ss = ((ss.filter fun y => ok x y).map fun y => (x, y)) ++ crs ok fs ss := by simp [crs]
  have h1 := crs_len ok ss fs
  have h2 := List.length_filter_le (fun y => ok x y) ss
  rw [e, List.length_append, List.length_map, List.length_cons, Nat.succ_mul]
  omega
theorem itd_of {ok : Nat → Nat → Bool} {u u' : World} {B0 Bf Bs Bw wb G H wc : Nat} {fa sa : Option Addr} {fc sc fb fo sb so : Nat} {fs ss : List Nat} {F : Nat → Nat → Nat}
  (hcf : u'.cell? ⟨Bf, 0, none⟩ = some (.slice fa fs.length fc)) (hcs : u'.cell? ⟨Bs, 0, none⟩ = some (.slice sa ss.length sc)) (hcw : u'.cell? ⟨Bw, 0, none⟩ = some (.slice (some ⟨wb, 0, none⟩) G wc))
  (hfa : 0 < fs.length → fa = some ⟨fb, fo, none⟩) (hfr : ∀ i, i < fs.length → u'.cell? ⟨fb, fo + i, none⟩ = some (.int .i64 ((fs.getD i 0 : Nat) : Int))) (hsa : 0 < ss.length → sa = some ⟨sb, so, none⟩) (hsr : ∀ i, i < ss.length → u'.cell? ⟨sb, so + i, none⟩ = some (.int .i64 ((ss.getD i 0 : Nat) : Int)))
  (hwl : Ls u' wb G F) (htb : Tb u') (n1 : Bf < B0 ∨ u.heap.size ≤ Bf) (n2 : Bs < B0 ∨ u.heap.size ≤ Bs) (n3 : Bw < B0 ∨ u.heap.size ≤ Bw) (o1 : 0 < fs.length → fb < B0) (o2 : 0 < ss.length → sb < B0) (o3 : 0 < G → wb < B0) (o4 : 0 < B0)
  (hnd : ss.Nodup) (hs2 : ∀ y ∈ ss, y < H) (hH : H ≤ 2048) (hf2 : ∀ x ∈ fs, x < G) (hG : G ≤ 2048) (hF : ∀ x y, x < G → mem (F x) y = (decide (y < H) && ok x y)) (hlf : fs.length ≤ 2048) (hls : ss.length ≤ 2048) :
  ItD u u' B0 (.func (.func 81) #[] #[.pointer (some ⟨Bs, 0, none⟩), .pointer (some ⟨Bf, 0, none⟩), .pointer (some ⟨Bw, 0, none⟩)]) (crs ok fs ss) (crP ok fs ss) := by
 have hz : 0 < u'.heap.size := World.block_lt_of_cell? _ _ (htb 0 (by omega))
 have hbs : ∀ b, (b = Bs ∨ b = Bf ∨ b = Bw ∨ b = 0 ∨ (0 < ss.length ∧ b = sb) ∨ (0 < fs.length ∧ b = fb) ∨ (0 < G ∧ b = wb)) → b < u'.heap.size ∧ (b < B0 ∨ u.heap.size ≤ b) := fun b hb => by
  rcases hb with rfl | rfl | rfl | rfl | ⟨h, rfl⟩ | ⟨h, rfl⟩ | ⟨h, rfl⟩
  ·exact ⟨World.block_lt_of_cell? _ _ hcs, n2⟩
  ·exact ⟨World.block_lt_of_cell? _ _ hcf, n1⟩
  ·exact ⟨World.block_lt_of_cell? _ _ hcw, n3⟩
  ·exact ⟨hz, Or.inl o4⟩
  ·exact ⟨World.block_lt_of_cell? _ _ (hsr 0 h), Or.inl (o2 h)⟩
  ·exact ⟨World.block_lt_of_cell? _ _ (hfr 0 h), Or.inl (o1 h)⟩
  ·exact ⟨(hwl 0 h).lt, Or.inl (o3 h)⟩
 refine ⟨81, _, _, rfl, cross_stops 8 (bs := fun b => b = Bs ∨ b = Bf ∨ b = Bw ∨ b = 0 ∨ (0 < ss.length ∧ b = sb) ∨ (0 < fs.length ∧ b = fb) ∨ (0 < G ∧ b = wb)) (sb := sb) (so := so) (fb := fb) (fo := fo) (sc := sc) (fc := fc) (wc := wc) ⟨hcs, hcf, hcw, hsa, hsr, hfa, hfr, hwl, htb, ⟨Or.inl rfl, Or.inr (Or.inl rfl), Or.inr (Or.inr (Or.inl rfl)), Or.inr (Or.inr (Or.inr (Or.inl rfl)))⟩, ⟨fun h => Or.inr (Or.inr (Or.inr (Or.inr (Or.inl ⟨h, rfl⟩)))), fun h => Or.inr (Or.inr (Or.inr (Or.inr (Or.inr (Or.inl ⟨h, rfl⟩))))), fun h => Or.inr (Or.inr (Or.inr (Or.inr (Or.inr (Or.inr ⟨h, rfl⟩)))))⟩⟩ (fun b hb => (hbs b hb).1) hnd hs2 hH hf2 hG hF hlf hls, enters_of Tryz.func81 (by kernel_rfl) rfl, ?_, hbs, ?_⟩
 ·refine prn_mks (fun p hp => ?_)
  obtain ⟨x, y⟩ := p
  obtain ⟨h1, h2, _⟩ := mem_crs.1 hp
  have h3 := hf2 x h1
  have h4 := hs2 y h2
  exact ⟨by show x < 4096; omega, by show y < 4096; omega⟩
 ·unfold crP
  rw [List.length_map]
  have h1 := crs_len ok ss fs
  have h2 : fs.length * ss.length ≤ 2048 * 2048 := Nat.mul_le_mul hlf hls
  omega
theorem cross40 (fa : Option Addr) (fn fc : Nat) (sa : Option Addr) (sn sc : Nat) (wa : Option Addr) (wn wc : Nat) (w : World) : Calls Tryz.prog 34 #[.slice fa fn fc, .slice sa sn sc, .slice wa wn wc] w fun e w' => ∃ Bf Bs Bw, e = .returned (.func (.func 81) #[] #[.pointer (some ⟨Bs, 0, none⟩), .pointer (some ⟨Bf, 0, none⟩), .pointer (some ⟨Bw, 0, none⟩)]) ∧ Hid ((w.heap.size ≤ Bf ∧ w.heap.size ≤ Bs ∧ w.heap.size ≤ Bw) ∧ Below w.heap.size w w' ∧ w'.cell? ⟨Bf, 0, none⟩ = some (.slice fa fn fc) ∧ w'.cell? ⟨Bs, 0, none⟩ = some (.slice sa sn sc) ∧ w'.cell? ⟨Bw, 0, none⟩ = some (.slice wa wn wc)) := by
 have hmf : ∀ (fn : Fn) (first cap : Array Value) (w : World), (Instr.makeFunc fn first cap).run Tryz.prog w = .ok (.func fn first cap) w := fun _ _ _ _ => rfl
 have hfin : ∀ W, ((w.alloc (.cells #[.slice fa fn fc] 29)).alloc (.cells #[.slice sa sn sc] 29)).alloc (.cells #[.slice wa wn wc] 64) = W → Hid ((w.heap.size ≤ w.heap.size ∧ w.heap.size ≤ w.heap.size + 1 ∧ w.heap.size ≤ w.heap.size + 1 + 1) ∧ Below w.heap.size w W ∧ W.cell? ⟨w.heap.size, 0, none⟩ = some (.slice fa fn fc) ∧ W.cell? ⟨w.heap.size + 1, 0, none⟩ = some (.slice sa sn sc) ∧ W.cell? ⟨w.heap.size + 1 + 1, 0, none⟩ = some (.slice wa wn wc)) := by
  rintro W rfl
  have b1 := box_below w (.cells #[.slice fa fn fc] 29)
  have c1 : (w.alloc (.cells #[.slice fa fn fc] 29)).cell? ⟨w.heap.size, 0, none⟩ = some (.slice fa fn fc) := cell_of_alloc rfl
  have s1 : (w.alloc (.cells #[.slice fa fn fc] 29)).heap.size = w.heap.size + 1 := by simp
  generalize w.alloc (.cells #[.slice fa fn fc] 29) = W1 at *
  have b2 := box_below W1 (.cells #[.slice sa sn sc] 29)
  have c2 : (W1.alloc (.cells #[.slice sa sn sc] 29)).cell? ⟨W1.heap.size, 0, none⟩ = some (.slice sa sn sc) := cell_of_alloc rfl
  have s2 : (W1.alloc (.cells #[.slice sa sn sc] 29)).heap.size = w.heap.size + 1 + 1 := by simp [s1]
  rw [s1] at c2
  have c1' := below_cell b2 jq0 c1
  generalize W1.alloc (.cells #[.slice sa sn sc] 29) = W2 at *
  have b3 := box_below W2 (.cells #[.slice wa wn wc] 64)
  have c3 : (W2.alloc (.cells #[.slice wa wn wc] 64)).cell? ⟨W2.heap.size, 0, none⟩ = some (.slice wa wn wc) := cell_of_alloc rfl
  rw [s2] at c3
  exact hid ⟨⟨Nat.le_refl _, by omega, by omega⟩, (b1.trans (b2.mono (by omega))).trans (b3.mono (by omega)), below_cell b3 jq0 c1', below_cell b3 jq0 c2, c3⟩
 go_enter Tryz.func34, Tryz.ntmps34
 go_wp2
 go_ret
 exact ⟨_, _, _, rfl, hfin _ rfl⟩
structure Bgm (A B : Ax) (Ba Bb Bw wb nb mb : Nat) (V U : Nat → Value) (w : World) : Prop where
 ba : w.cell? ⟨Ba, 0, none⟩ = some (.slice (some ⟨nb, 0, none⟩) A.G A.G)
 bb : w.cell? ⟨Bb, 0, none⟩ = some (.slice (some ⟨mb, 0, none⟩) B.G B.G)
 bw : w.cell? ⟨Bw, 0, none⟩ = some (.slice (some ⟨wb, 0, none⟩) A.G A.G)
 ls : Ls w wb A.G (fun x => pwS (a_okB A B) x B.G)
 rowA : ∀ x, x < A.G → w.cell? ⟨nb, x, none⟩ = some (V x) ∧ w.ownsRow 0 3 1 (V x) (cs (aNx A x)).length (vals (cs (aNx A x)))
 rowB : ∀ x, x < B.G → w.cell? ⟨mb, x, none⟩ = some (U x) ∧ w.ownsRow 0 3 1 (U x) (cs (aNx B x)).length (vals (cs (aNx B x)))
 tb : Tb w
 okA : chkA A = 0
 a_okB : chkA B = 0
theorem Bgm.below {A B : Ax} {Ba Bb Bw wb nb mb : Nat} {V U : Nat → Value} {w u : World} (h : Bgm A B Ba Bb Bw wb nb mb V U w) (hb : Below w.heap.size w u) : Bgm A B Ba Bb Bw wb nb mb V U u :=
 ⟨below_cell hb jq0 h.ba, below_cell hb jq0 h.bb, below_cell hb jq0 h.bw, h.ls.below' hb, fun x hx => ⟨below_cell hb jq0 (h.rowA x hx).1, owns_below (h.rowA x hx).2 hb⟩, fun x hx => ⟨below_cell hb jq0 (h.rowB x hx).1, owns_below (h.rowB x hx).2 hb⟩, fun j hj => below_cell hb jq0 (h.tb j hj), h.okA, h.a_okB⟩
set_option maxRecDepth 100000 in
set_option maxHeartbeats 4000000 in
theorem b42 (A B : Ax) (Ba Bb Bw wb nb mb : Nat) (V U : Nat → Value) (p : Nat × Nat) (w u : World) (h : Bgm A B Ba Bb Bw wb nb mb V U w) (hb : Below w.heap.size w u) (hp : bP A B p) :
  Calls Tryz.prog 36 #[.agg #[.int .i64 ((p.1 : Nat) : Int), .int .i64 ((p.2 : Nat) : Int)], .pointer (some ⟨Ba, 0, none⟩), .pointer (some ⟨Bb, 0, none⟩), .pointer (some ⟨Bw, 0, none⟩)] u fun e u' => ∃ v all, e = .returned v ∧ Below u.heap.size u u' ∧ ItD u u' w.heap.size v (bX A B p) all := by
 have hu := h.below hb
 obtain ⟨hGA, _⟩ := chkA_ok h.okA
 obtain ⟨hGB, _⟩ := chkA_ok h.a_okB
 obtain ⟨px, py⟩ := p
 obtain ⟨hpx, hpy⟩ := hp
 dsimp only at hpx hpy ⊢
 obtain ⟨r1, r2⟩ := h.rowA px hpx
 obtain ⟨s1, s2⟩ := h.rowB py hpy
 obtain ⟨a, c, hv, ab, ao, ha, hc⟩ := owns_row r2
 obtain ⟨a', c', hv', ab', ao', ha', hc'⟩ := owns_row s2
 rw [cs_len] at ha hc hv ha' hc' hv'
 have y1 := (hu.rowA px hpx).1
 have y2 := (hu.rowB py hpy).1
 rw [hv] at y1
 rw [hv'] at y2
 obtain ⟨W0, hW0, hb0, hs0, x0, x1⟩ := box2 u (.int .i64 (px : Nat)) (.int .i64 (py : Nat)) 86
 have hS0 : (fun z : World => z.cell? ⟨Ba, 0, none⟩ = some (.slice (some ⟨nb, 0, none⟩) A.G A.G) ∧ z.cell? ⟨Bb, 0, none⟩ = some (.slice (some ⟨mb, 0, none⟩) B.G B.G) ∧ z.cell? ⟨Bw, 0, none⟩ = some (.slice (some ⟨wb, 0, none⟩) A.G A.G) ∧ z.cell? ⟨u.heap.size, 0, none⟩ = some (.int .i64 (px : Nat)) ∧ z.cell? ⟨u.heap.size, 1, none⟩ = some (.int .i64 (py : Nat)) ∧ z.cell? ⟨nb, px, none⟩ = some (.slice a (aNx A px).length c) ∧ z.cell? ⟨mb, py, none⟩ = some (.slice a' (aNx B py).length c')) W0.drew := ⟨below_cell hb0.drew jq0 hu.ba, below_cell hb0.drew jq0 hu.bb, below_cell hb0.drew jq0 hu.bw, x0, x1, below_cell hb0.drew jq0 y1, below_cell hb0.drew jq0 y2⟩
 have HB0 := hid hb0
 have C40 := hid (cross40 a (aNx A px).length c a' (aNx B py).length c' (some ⟨wb, 0, none⟩) A.G A.G W0.drew)
 have HFin : Hid (∀ u' : World, Below u.heap.size u u' → ∀ Bf Bs Bq, u.heap.size ≤ Bf → u.heap.size ≤ Bs → u.heap.size ≤ Bq → u'.cell? ⟨Bf, 0, none⟩ = some (.slice a (aNx A px).length c) → u'.cell? ⟨Bs, 0, none⟩ = some (.slice a' (aNx B py).length c') → u'.cell? ⟨Bq, 0, none⟩ = some (.slice (some ⟨wb, 0, none⟩) A.G A.G) → ItD u u' w.heap.size (.func (.func 81) #[] #[.pointer (some ⟨Bs, 0, none⟩), .pointer (some ⟨Bf, 0, none⟩), .pointer (some ⟨Bq, 0, none⟩)]) (bX A B (px, py)) (crP (a_okB A B) (aNx A px) (aNx B py))) := hid (fun u' hb' Bf Bs Bq g1 g2 g3 g4 g5 g6 => by
  have hwu : Below w.heap.size w u' := hb.trans (hb'.mono hb.size)
  refine itd_of (H := B.G) (fb := ab) (fo := ao) (sb := ab') (so := ao') g4 g5 g6 ha (fun i hi => ?_) ha' (fun i hi => ?_) ((h.below hwu).ls) ((h.below hwu).tb) (Or.inr g1) (Or.inr g2) (Or.inr g3) (fun hl => World.block_lt_of_cell? _ _ (hc 0 hl)) (fun hl => World.block_lt_of_cell? _ _ (hc' 0 hl)) (fun hl => (h.ls 0 hl).lt) (Nat.lt_of_le_of_lt (Nat.zero_le _) (World.block_lt_of_cell? _ _ h.ba)) ?_ (fun y hy => aNx_lt h.a_okB hpy hy) hGB (fun x hx => aNx_lt h.okA hpx hx) hGA (fun x y _ => mem_pwS _ _ _ _) (aNx_len h.okA px) (aNx_len h.a_okB py)
  ·have := hc i hi
   simp only [cs_at] at this
   exact below_cell hwu jq0 this
  ·have := hc' i hi
   simp only [cs_at] at this
   exact below_cell hwu jq0 this
  ·rw [aNx_is hpy]; exact onN_nodup _ _)
 clear hc ha hc' ha' r1 r2 s1 s2 hv hv' hu h hb y1 y2 hb0
 go_enter Tryz.func36, Tryz.ntmps36
 go_wp2_with fail
 refine G_region (fun z : World => z.cell? ⟨Ba, 0, none⟩ = some (.slice (some ⟨nb, 0, none⟩) A.G A.G) ∧ z.cell? ⟨Bb, 0, none⟩ = some (.slice (some ⟨mb, 0, none⟩) B.G B.G) ∧ z.cell? ⟨Bw, 0, none⟩ = some (.slice (some ⟨wb, 0, none⟩) A.G A.G) ∧ z.cell? ⟨u.heap.size, 0, none⟩ = some (.int .i64 (px : Nat)) ∧ z.cell? ⟨u.heap.size, 1, none⟩ = some (.int .i64 (py : Nat)) ∧ z.cell? ⟨nb, px, none⟩ = some (.slice a (aNx A px).length c) ∧ z.cell? ⟨mb, py, none⟩ = some (.slice a' (aNx B py).length c')) (fun _ => false) (by kernel_rfl) hS0 (fun _ => ?_)
 refine G_tk (i := 0) (oi := { dst := some 6, op := Op.load 30 (Operand.tmp 1), type := 30, pos := _, after := #[], guard := none }) (v := .slice (some ⟨nb, 0, none⟩) A.G A.G) hS0 ?_
 (try simp only [Act.put, jq1, jq2, jq3])
 refine G_tk (i := 1) (oi := { dst := some 7, op := Op.fieldAddr 86 (Operand.tmp 4) 0, type := 0, pos := _, after := #[], guard := none }) (v := .pointer (some ⟨u.heap.size, 0, none⟩)) hS0 ?_
 (try simp only [Act.put, jq1, jq2, jq3])
 refine G_tk (i := 2) (oi := { dst := some 8, op := Op.load 3 (Operand.tmp 7), type := 3, pos := _, after := #[{ on := 1, ground := Ground.data }], guard := none }) (v := .int .i64 (px : Nat)) hS0 ?_
 (try simp only [Act.put, jq1, jq2, jq3])
 refine G_tk (i := 3) (oi := { dst := some 9, op := Op.indexAddr 30 (Operand.tmp 6) (Operand.tmp 8), type := 0, pos := _, after := #[{ on := 0, ground := Ground.data }, { on := 2, ground := Ground.data }], guard := none }) (v := .pointer (some ⟨nb, px, none⟩)) hS0 ?_
 (try simp only [Act.put, jq1, jq2, jq3])
 refine G_tk (i := 4) (oi := { dst := some 10, op := Op.load 29 (Operand.tmp 9), type := 29, pos := _, after := #[{ on := 3, ground := Ground.data }], guard := none }) (v := .slice a (aNx A px).length c) hS0 ?_
 (try simp only [Act.put, jq1, jq2, jq3])
 refine G_tk (i := 5) (oi := { dst := some 11, op := Op.load 30 (Operand.tmp 2), type := 30, pos := _, after := #[], guard := none }) (v := .slice (some ⟨mb, 0, none⟩) B.G B.G) hS0 ?_
 (try simp only [Act.put, jq1, jq2, jq3])
 refine G_tk (i := 6) (oi := { dst := some 12, op := Op.fieldAddr 86 (Operand.tmp 4) 1, type := 0, pos := _, after := #[], guard := none }) (v := .pointer (some ⟨u.heap.size, 1, none⟩)) hS0 ?_
 (try simp only [Act.put, jq1, jq2, jq3])
 refine G_tk (i := 7) (oi := { dst := some 13, op := Op.load 3 (Operand.tmp 12), type := 3, pos := _, after := #[{ on := 6, ground := Ground.data }], guard := none }) (v := .int .i64 (py : Nat)) hS0 ?_
 (try simp only [Act.put, jq1, jq2, jq3])
 refine G_tk (i := 8) (oi := { dst := some 14, op := Op.indexAddr 30 (Operand.tmp 11) (Operand.tmp 13), type := 0, pos := _, after := #[{ on := 5, ground := Ground.data }, { on := 7, ground := Ground.data }], guard := none }) (v := .pointer (some ⟨mb, py, none⟩)) hS0 ?_
 (try simp only [Act.put, jq1, jq2, jq3])
 refine G_tk (i := 9) (oi := { dst := some 15, op := Op.load 29 (Operand.tmp 14), type := 29, pos := _, after := #[{ on := 8, ground := Ground.data }], guard := none }) (v := .slice a' (aNx B py).length c') hS0 ?_
 (try simp only [Act.put, jq1, jq2, jq3])
 refine G_tk (i := 10) (oi := { dst := some 16, op := Op.load 64 (Operand.tmp 3), type := 64, pos := _, after := #[], guard := none }) (v := .slice (some ⟨wb, 0, none⟩) A.G A.G) hS0 ?_
 (try simp only [Act.put, jq1, jq2, jq3])
 refine G_step (i := 11) (o := _) (by kernel_rfl) rfl (fun K' hK => ?_)
 go_simp
 refine C40.out.mono ?_
 rintro e z ⟨Bf, Bs, Bq, rfl, HZ⟩
 dsimp only
 have hSz : (fun z : World => z.cell? ⟨Ba, 0, none⟩ = some (.slice (some ⟨nb, 0, none⟩) A.G A.G) ∧ z.cell? ⟨Bb, 0, none⟩ = some (.slice (some ⟨mb, 0, none⟩) B.G B.G) ∧ z.cell? ⟨Bw, 0, none⟩ = some (.slice (some ⟨wb, 0, none⟩) A.G A.G) ∧ z.cell? ⟨u.heap.size, 0, none⟩ = some (.int .i64 (px : Nat)) ∧ z.cell? ⟨u.heap.size, 1, none⟩ = some (.int .i64 (py : Nat)) ∧ z.cell? ⟨nb, px, none⟩ = some (.slice a (aNx A px).length c) ∧ z.cell? ⟨mb, py, none⟩ = some (.slice a' (aNx B py).length c')) z := ⟨below_cell HZ.out.2.1 jq0 hS0.1, below_cell HZ.out.2.1 jq0 hS0.2.1, below_cell HZ.out.2.1 jq0 hS0.2.2.1, below_cell HZ.out.2.1 jq0 hS0.2.2.2.1, below_cell HZ.out.2.1 jq0 hS0.2.2.2.2.1, below_cell HZ.out.2.1 jq0 hS0.2.2.2.2.2.1, below_cell HZ.out.2.1 jq0 hS0.2.2.2.2.2.2⟩
 refine hK.out _ _ (fun _ => hSz) (fun _ => ?_)
 (try simp only [Act.put, jq1, jq2, jq3])
 refine G_step (i := 12) (o := _) (by kernel_rfl) rfl (fun K' hK => ?_)
 go_simp
 refine hK.out _ _ (fun _ => hSz) (fun _ => ?_)
 (try simp only [Act.put, jq1, jq2, jq3])
 refine G_done (by kernel_rfl) ?_ _
 (try dsimp only [Exit.then])
 go_wp2
 go_ret
 obtain ⟨⟨g1, g2, g3⟩, g0, g4, g5, g6⟩ := HZ.out
 have hbz := HB0.out.drew.trans (g0.mono (show u.heap.size ≤ W0.drew.heap.size from HB0.out.size))
 exact ⟨_, rfl, hbz, _, HFin.out _ hbz _ _ _ (Nat.le_trans HB0.out.size g1) (Nat.le_trans HB0.out.size g2) (Nat.le_trans HB0.out.size g3) g4 g5 g6⟩
theorem b44 (b : Nat) (x : Nat → Nat) (px py : Nat) (w : World) (h : px < 2048) (hx : Bx w b x) :
  Calls Tryz.prog 38 #[.agg #[.int .i64 (px : Nat), .int .i64 (py : Nat)], .pointer (some ⟨b, 0, none⟩)] w fun e w' => e = .returned (.bool (mem x px)) ∧ Below w.heap.size w w' := by
 obtain ⟨W0, hW0, hb0, hs0, x0, x1⟩ := box2 w (.int .i64 (px : Nat)) (.int .i64 (py : Nat)) 86
 have CH := hid (has_any b 0 x px W0 h (hx.below hb0 (bx_lt hx)).st)
 have HB0 := hid hb0
 clear hb0 hx
 go_enter Tryz.func38, Tryz.ntmps38
 go_wp2_with fail
 refine CH.out.mono ?_
 rintro e w' ⟨rfl, rfl⟩
 go_wp2
 go_ret
 exact ⟨rfl, by have := HB0.out; first | exact this | exact this.drew⟩
set_option maxRecDepth 100000 in
set_option maxHeartbeats 2000000 in
theorem where44 (pa : Option Addr) (k pc : Nat) (q : Nat → Nat × Nat) (P : Nat → Bool) (c1 : Value) (w : World) (hk : k ≤ 2048) (hp : Sp w pa k q)
  (hcl : ∀ i, i < k → ∀ u, Below w.heap.size w u → Calls Tryz.prog 38 #[.agg #[.int .i64 (((q i).1 : Nat) : Int), .int .i64 (((q i).2 : Nat) : Int)], c1] u fun e u' => e = .returned (.bool (P i)) ∧ Below u.heap.size u u') :
  Calls Tryz.prog 37 #[.slice pa k pc, .func (.func 38) #[] #[c1]] w fun e w' => ∃ v, e = .returned v ∧ w'.ownsRow w.heap.size 3 1 v (cs (whN P k)).length (vals (cs (whN P k))) ∧ Below w.heap.size w w' := by
 obtain ⟨b, ha, hc⟩ := hp
 have HC := hid hc
 have HCL := hid hcl
 clear hc hcl
 obtain ⟨i0, hi, hz0, hz1, hz2⟩ := info_parts Tryz.info3
 have HI : Hid (Tryz.prog.info? 3 = some i0 ∧ i0.zero = some (.int .i64 0) ∧ i0.size = 1 ∧ i0.bytes = 8) := ⟨hi, hz0, hz1, hz2⟩
 clear hi hz0 hz1 hz2
 go_enter Tryz.func37, Tryz.ntmps37
 go_wp2
 go_loopw [5, 10] (fun v i wr => ∃ j : Nat, j ≤ k ∧ i = .int .i64 j ∧ Hid (Below w.heap.size w wr ∧ wr.ownsRow w.heap.size 3 1 v (cs (whN P j)).length (vals (cs (whN P j))))) (fun _ i _ => k - (intOf i).toNat)
 case atStart => exact ⟨0, by omega, rfl, hid ⟨Below.refl _ _, World.ownsRow_nil _ _ _ _⟩⟩
 case round =>
  rename_i v _
  obtain ⟨j, hj, rfl, H⟩ := hrel
  by_cases hlt : j < k
  ·obtain rfl := ha (by omega)
   obtain ⟨c1, c2⟩ := HC.out j hlt
   have h1 := below_cell H.out.1 jq0 c1
   have h2 := below_cell H.out.1 jq0 c2
   have HCj := HCL.out j hlt
   have hw0 := whN_succ P j
   generalize hqj : q j = qj at *
   obtain ⟨x, y⟩ := qj
   dsimp only at h1 h2 HCj
   clear c1 c2 hqj
   have hbx := box_below wr (.cells #[.int .i64 (x : Nat), .int .i64 (y : Nat)] 86)
   have hsx : (wr.alloc (.cells #[.int .i64 (x : Nat), .int .i64 (y : Nat)] 86)).heap.size = wr.heap.size + 1 := by simp
   have C1 := hid (HCj _ (H.out.1.trans (hbx.mono H.out.1.size)))
   have HBX := hid (And.intro hbx hsx)
   have hlen : (cs (whN P j)).length ≤ 2048 := by rw [cs_len]; have := whN_len P j; omega
   have HWt : Hid (P j = true → whN P (j + 1) = whN P j ++ [j]) := hid (fun h => by rw [hw0, if_pos h])
   have HWf : Hid (P j = false → whN P (j + 1) = whN P j) := hid (fun h => by rw [hw0, if_neg (by rw [h]; simp)])
   have hwl := H.out.1.size
   clear hbx hsx HCj hw0
   go_wp2_with fail
   refine C1.out.mono ?_
   rintro e w1 ⟨rfl, hb1⟩
   have HB1 := hid (HBX.out.1.trans (hb1.mono HBX.out.1.size))
   have hs1 : wr.heap.size ≤ w1.heap.size := HB1.out.size
   clear hb1 h1 h2 C1
   cases hP : P j
   ·have HW := hid (HWf.out hP)
    clear hP
    go_wp2
    go_roundw
    case rel => exact ⟨j + 1, by omega, by go_num, hid ⟨H.out.1.trans (HB1.out.mono H.out.1.size), by rw [HW.out]; exact owns_below H.out.2 HB1.out⟩⟩
    case measure => simp [intOf]; omega
   ·have HW := hid (HWt.out hP)
    clear hP
    have HO := hid (owns_below H.out.2 HB1.out)
    have HBB := hid (H.out.1.trans (HB1.out.mono H.out.1.size))
    have hsz : w.heap.size ≤ w1.heap.size := by omega
    go_wp2_with (at_builtin; refine wpList_append_own_at _ rfl _ _ 29 rfl w.heap.size 3 i0 (.int .i64 0) 1 8 Tryz.underlying29 HI.out.1 HI.out.2.1 HI.out.2.2.1 HI.out.2.2.2 rfl (by decide) _ _ _ rfl (HO.out.alloc _) ⟨w1.heap.size, 0, none⟩ 1 1 [.int .i64 (j : Int)] rfl rfl (cell_one_new _ _ _) (ints_oneCell .i64 [(j : Int)]) (by unfold maxLen; omega) (by omega) (by simp; omega) ?_; intro v' w3 hown' hgrow hnil hloc; have G := hid (ints_grow HBB.out jq0 HO.out hown' hgrow); clear hown' hgrow hnil hloc)
    go_roundw
    case rel => exact ⟨j + 1, by omega, by go_num, hid ⟨G.out.1, by rw [HW.out, cs_snoc]; exact G.out.2.1⟩⟩
    case measure => simp [intOf]; omega
  ·go_wp2
   go_ret
   obtain rfl : j = k := by omega
   exact ⟨_, rfl, H.out.2, H.out.1⟩
theorem b46 (b : Nat) (x : Nat → Nat) (px py : Nat) (w : World) (h : py < 2048) (hx : Bx w b x) :
  Calls Tryz.prog 40 #[.agg #[.int .i64 (px : Nat), .int .i64 (py : Nat)], .pointer (some ⟨b, 0, none⟩)] w fun e w' => e = .returned (.bool (mem x py)) ∧ Below w.heap.size w w' := by
 obtain ⟨W0, hW0, hb0, hs0, x0, x1⟩ := box2 w (.int .i64 (px : Nat)) (.int .i64 (py : Nat)) 86
 have CH := hid (has_any b 0 x py W0 h (hx.below hb0 (bx_lt hx)).st)
 have HB0 := hid hb0
 clear hb0 hx
 go_enter Tryz.func40, Tryz.ntmps40
 go_wp2_with fail
 refine CH.out.mono ?_
 rintro e w' ⟨rfl, rfl⟩
 go_wp2
 go_ret
 exact ⟨rfl, by have := HB0.out; first | exact this | exact this.drew⟩
set_option maxRecDepth 100000 in
set_option maxHeartbeats 2000000 in
theorem where46 (pa : Option Addr) (k pc : Nat) (q : Nat → Nat × Nat) (P : Nat → Bool) (c1 : Value) (w : World) (hk : k ≤ 2048) (hp : Sp w pa k q)
  (hcl : ∀ i, i < k → ∀ u, Below w.heap.size w u → Calls Tryz.prog 40 #[.agg #[.int .i64 (((q i).1 : Nat) : Int), .int .i64 (((q i).2 : Nat) : Int)], c1] u fun e u' => e = .returned (.bool (P i)) ∧ Below u.heap.size u u') :
  Calls Tryz.prog 37 #[.slice pa k pc, .func (.func 40) #[] #[c1]] w fun e w' => ∃ v, e = .returned v ∧ w'.ownsRow w.heap.size 3 1 v (cs (whN P k)).length (vals (cs (whN P k))) ∧ Below w.heap.size w w' := by
 obtain ⟨b, ha, hc⟩ := hp
 have HC := hid hc
 have HCL := hid hcl
 clear hc hcl
 obtain ⟨i0, hi, hz0, hz1, hz2⟩ := info_parts Tryz.info3
 have HI : Hid (Tryz.prog.info? 3 = some i0 ∧ i0.zero = some (.int .i64 0) ∧ i0.size = 1 ∧ i0.bytes = 8) := ⟨hi, hz0, hz1, hz2⟩
 clear hi hz0 hz1 hz2
 go_enter Tryz.func37, Tryz.ntmps37
 go_wp2
 go_loopw [5, 10] (fun v i wr => ∃ j : Nat, j ≤ k ∧ i = .int .i64 j ∧ Hid (Below w.heap.size w wr ∧ wr.ownsRow w.heap.size 3 1 v (cs (whN P j)).length (vals (cs (whN P j))))) (fun _ i _ => k - (intOf i).toNat)
 case atStart => exact ⟨0, by omega, rfl, hid ⟨Below.refl _ _, World.ownsRow_nil _ _ _ _⟩⟩
 case round =>
  rename_i v _
  obtain ⟨j, hj, rfl, H⟩ := hrel
  by_cases hlt : j < k
  ·obtain rfl := ha (by omega)
   obtain ⟨c1, c2⟩ := HC.out j hlt
   have h1 := below_cell H.out.1 jq0 c1
   have h2 := below_cell H.out.1 jq0 c2
   have HCj := HCL.out j hlt
   have hw0 := whN_succ P j
   generalize hqj : q j = qj at *
   obtain ⟨x, y⟩ := qj
   dsimp only at h1 h2 HCj
   clear c1 c2 hqj
   have hbx := box_below wr (.cells #[.int .i64 (x : Nat), .int .i64 (y : Nat)] 86)
   have hsx : (wr.alloc (.cells #[.int .i64 (x : Nat), .int .i64 (y : Nat)] 86)).heap.size = wr.heap.size + 1 := by simp
   have C1 := hid (HCj _ (H.out.1.trans (hbx.mono H.out.1.size)))
   have HBX := hid (And.intro hbx hsx)
   have hlen : (cs (whN P j)).length ≤ 2048 := by rw [cs_len]; have := whN_len P j; omega
   have HWt : Hid (P j = true → whN P (j + 1) = whN P j ++ [j]) := hid (fun h => by rw [hw0, if_pos h])
   have HWf : Hid (P j = false → whN P (j + 1) = whN P j) := hid (fun h => by rw [hw0, if_neg (by rw [h]; simp)])
   have hwl := H.out.1.size
   clear hbx hsx HCj hw0
   go_wp2_with fail
   refine C1.out.mono ?_
   rintro e w1 ⟨rfl, hb1⟩
   have HB1 := hid (HBX.out.1.trans (hb1.mono HBX.out.1.size))
   have hs1 : wr.heap.size ≤ w1.heap.size := HB1.out.size
   clear hb1 h1 h2 C1
   cases hP : P j
   ·have HW := hid (HWf.out hP)
    clear hP
    go_wp2
    go_roundw
    case rel => exact ⟨j + 1, by omega, by go_num, hid ⟨H.out.1.trans (HB1.out.mono H.out.1.size), by rw [HW.out]; exact owns_below H.out.2 HB1.out⟩⟩
    case measure => simp [intOf]; omega
   ·have HW := hid (HWt.out hP)
    clear hP
    have HO := hid (owns_below H.out.2 HB1.out)
    have HBB := hid (H.out.1.trans (HB1.out.mono H.out.1.size))
    have hsz : w.heap.size ≤ w1.heap.size := by omega
    go_wp2_with (at_builtin; refine wpList_append_own_at _ rfl _ _ 29 rfl w.heap.size 3 i0 (.int .i64 0) 1 8 Tryz.underlying29 HI.out.1 HI.out.2.1 HI.out.2.2.1 HI.out.2.2.2 rfl (by decide) _ _ _ rfl (HO.out.alloc _) ⟨w1.heap.size, 0, none⟩ 1 1 [.int .i64 (j : Int)] rfl rfl (cell_one_new _ _ _) (ints_oneCell .i64 [(j : Int)]) (by unfold maxLen; omega) (by omega) (by simp; omega) ?_; intro v' w3 hown' hgrow hnil hloc; have G := hid (ints_grow HBB.out jq0 HO.out hown' hgrow); clear hown' hgrow hnil hloc)
    go_roundw
    case rel => exact ⟨j + 1, by omega, by go_num, hid ⟨G.out.1, by rw [HW.out, cs_snoc]; exact G.out.2.1⟩⟩
    case measure => simp [intOf]; omega
  ·go_wp2
   go_ret
   obtain rfl : j = k := by omega
   exact ⟨_, rfl, H.out.2, H.out.1⟩
end Go.Proofs.YtmdpbaobihdgkaaGreatDoor
