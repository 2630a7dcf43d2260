
import Derived.Test.YtmdpbaobihdgkaaGreatDoorARg9
/- Both: its pairs, gathered, in whatever order. -/
set_option linter.unusedSimpArgs false
namespace Go.Proofs.YtmdpbaobihdgkaaGreatDoor
open Go.RowKit Go.Shelf Go.Maps
def GaF (w0 : World) (A B : Ax) (sv nv pv : Value) (k : Nat) (er : Int) (z : World) : Prop :=
 (er = 0 ∧ (bL A B k).length = k ∧ k ≤ 2048 ∧ z.ownsRow w0.heap.size 3 1 sv (cs ((bS A B).map fun p => ix p (bL A B k))).length (vals (cs ((bS A B).map fun p => ix p (bL A B k)))) ∧ (∃ V, Rws2 z w0.heap.size nv k (fun i => (bX A B (nAt (bL A B k) i)).map fun p => ix p (bL A B k)) V) ∧ z.ownsRow w0.heap.size 86 2 pv k (pcells (bL A B k)))
 ∨ (er = 2 ∧ ∃ k, 2048 < (bL A B k).length)
theorem GaF.keep {w0 : World} {A B : Ax} {sv nv pv : Value} {k : Nat} {er : Int} {z z' : World} (h : GaF w0 A B sv nv pv k er z) (hb : ∀ (b : Nat) (c : Array Value) (t : TypeId) (q : Nat × Nat), z.heap[b]? = some (Obj.cells c t q) → t ≠ 32 → z'.heap[b]? = z.heap[b]?) : GaF w0 A B sv nv pv k er z' := by
 have own : ∀ {base : Nat} {e : TypeId} {size : Nat} {v : Value} {m : Nat} {xs : List Value}, e ≠ 32 → z.ownsRow base e size v m xs → z'.ownsRow base e size v m xs := fun {base e size v m xs} he ho => owns_of_blk ho (fun b e1 => by
  obtain ⟨c, q, h3⟩ := owns_blk ho e1
  exact hb b c e q h3 he)
 rcases h with ⟨h1, h2, h3, h4, ⟨V, h5, h6⟩, h7⟩ | h
 ·exact Or.inl ⟨h1, h2, h3, own (by decide) h4, ⟨V, own (by decide) h5, fun i hi => by
   obtain ⟨v, g1, g2⟩ := h6 i hi
   exact ⟨v, g1, own (by decide) g2⟩⟩, own (by decide) h7⟩
 ·exact Or.inr h
theorem gaf_of {A B : Ax} {w : World} {e : Ending} {w' : World} (hA : chkA A = 0) (hB : chkA B = 0) (h : GaIs w (crP (a_okB A B) (aSt A) (aSt B)) (bX A B) e w') (w0 : World) (hw : w0.heap.size ≤ w.heap.size) :
  ∃ (s1 : Option Addr) (s2 s3 : Nat) (n1 : Option Addr) (n2 n3 : Nat) (p1 : Option Addr) (p2 p3 k : Nat) (er : Int), e = .returned (.tuple #[.agg #[.slice s1 s2 s3, .slice n1 n2 n3, .slice none 0 0, .slice none 0 0, .slice none 0 0], .slice p1 p2 p3, .int .i64 er]) ∧ Hid (Below w.heap.size w w' ∧ GaF w0 A B (.slice s1 s2 s3) (.slice n1 n2 n3) (.slice p1 p2 p3) k er w') := by
 have hsm : ∀ p ∈ bS A B, Sml p := fun p hp => bP_sml hA hB (bP_start hA hB p hp)
 have hm : (crP (a_okB A B) (aSt A) (aSt B)).map prn = bS A B := prn_mks hsm
 have hn : ∀ Q, nms Q (crP (a_okB A B) (aSt A) (aSt B)) = (bS A B).map fun p => ix p Q := fun Q => by
  unfold nms crP
  rw [List.map_map]
  exact List.map_congr_left (fun p hp => by show ix (prn (mkPr p)) Q = ix p Q; rw [prn_mk (hsm p hp)])
 unfold GaIs at h
 rw [hm] at h
 rcases h with ⟨k, sv, nv, pv, V, h1, h2, rfl, h3, h4, h5, h6⟩ | ⟨h1, rfl, h2⟩
 ·rw [hn] at h4
  obtain ⟨a, c, hs⟩ := owns_sl h4
  obtain ⟨a', c', hn'⟩ := owns_sl h5.top
  obtain ⟨a'', c'', hp⟩ := owns_sl h6
  subst hs hn' hp
  exact ⟨_, _, _, _, _, _, _, _, _, k, 0, rfl, hid ⟨h3, Or.inl ⟨rfl, h1, h2, owns_mono h4 hw, ⟨V, owns_mono h5.top hw, fun i hi => by
   obtain ⟨v, g1, g2⟩ := h5.row i hi
   exact ⟨v, g1, owns_mono g2 hw⟩⟩, owns_mono h6 hw⟩⟩⟩
 ·exact ⟨none, 0, 0, none, 0, 0, none, 0, 0, 0, 2, rfl, hid ⟨h2, Or.inr ⟨rfl, h1⟩⟩⟩
structure QA (w0 : World) (A B : Ax) (c : Nat) (f1 : Option Addr) (f3 : Nat) (s1 : Option Addr) (s3 Bf Bs Bq b8 wb : Nat) (z3 : World) (b11 : Nat) (x : Bool) (z : World) : Prop where
 low : Below w0.heap.size w0 z
 p1 : 1 ≤ c → z.ownsRow w0.heap.size 3 1 (.slice f1 (aSt A).length f3) (cs (aSt A)).length (vals (cs (aSt A)))
 p2 : 2 ≤ c → z.ownsRow w0.heap.size 3 1 (.slice s1 (aSt B).length s3) (cs (aSt B)).length (vals (cs (aSt B)))
 p3 : 3 ≤ c → Below w0.heap.size w0 z3 ∧ Below z3.heap.size z3 z ∧ z3.cell? ⟨Bf, 0, none⟩ = some (.slice f1 (aSt A).length f3) ∧ z3.cell? ⟨Bs, 0, none⟩ = some (.slice s1 (aSt B).length s3) ∧ z3.cell? ⟨Bq, 0, none⟩ = some (.slice (some ⟨wb, 0, none⟩) A.G A.G) ∧ z3.ownsRow w0.heap.size 3 1 (.slice f1 (aSt A).length f3) (cs (aSt A)).length (vals (cs (aSt A))) ∧ z3.ownsRow w0.heap.size 3 1 (.slice s1 (aSt B).length s3) (cs (aSt B)).length (vals (cs (aSt B)))
 a11 : x = true → z.heap[b11]? = some (.cells nil5 32) ∧ w0.heap.size ≤ b11
section
variable {w0 : World} {A B : Ax} {c : Nat} {f1 s1 : Option Addr} {f3 s3 Bf Bs Bq b8 wb : Nat} {z3 : World} {b11 : Nat} {x : Bool} {z z' : World}
theorem QA.al (h : QA w0 A B c f1 f3 s1 s3 Bf Bs Bq b8 wb z3 b11 false z) : QA w0 A B c f1 f3 s1 s3 Bf Bs Bq b8 wb z3 z.heap.size true (z.alloc (.cells nil5 32)) := by
 have hb := box_below z (.cells nil5 32)
 have hs := h.low.size
 exact ⟨h.low.trans (hb.mono hs), fun hc => owns_below (h.p1 hc) hb, fun hc => owns_below (h.p2 hc) hb, fun hc => ⟨(h.p3 hc).1, (h.p3 hc).2.1.trans (hb.mono (h.p3 hc).2.1.size), (h.p3 hc).2.2⟩, fun _ => ⟨Go.Deep.blk_alloc_new _ _, hs⟩⟩
theorem QA.k1 (h : QA w0 A B 0 f1 f3 s1 s3 Bf Bs Bq b8 wb z3 b11 x z) (hb : Below z.heap.size z z') {f1' : Option Addr} {f3' : Nat} (hr : z'.ownsRow (z.heap.size + 1) 3 1 (.slice f1' (aSt A).length f3') (cs (aSt A)).length (vals (cs (aSt A)))) : QA w0 A B 1 f1' f3' s1 s3 Bf Bs Bq b8 wb z3 b11 x z' := by
 have hs := h.low.size
 exact ⟨h.low.trans (hb.mono hs), fun _ => owns_mono hr (by omega), fun hc => by omega, fun hc => by omega, fun hx => ⟨(q9_old hb (h.a11 hx).1).1, (h.a11 hx).2⟩⟩
theorem QA.k2 (h : QA w0 A B 1 f1 f3 s1 s3 Bf Bs Bq b8 wb z3 b11 x z) (hb : Below z.heap.size z z') {s1' : Option Addr} {s3' : Nat} (hr : z'.ownsRow (z.heap.size + 1) 3 1 (.slice s1' (aSt B).length s3') (cs (aSt B)).length (vals (cs (aSt B)))) : QA w0 A B 2 f1 f3 s1' s3' Bf Bs Bq b8 wb z3 b11 x z' := by
 have hs := h.low.size
 exact ⟨h.low.trans (hb.mono hs), fun _ => owns_below (h.p1 jq0) hb, fun _ => owns_mono hr (by omega), fun hc => by omega, fun hx => ⟨(q9_old hb (h.a11 hx).1).1, (h.a11 hx).2⟩⟩
theorem QA.k3 (h : QA w0 A B 2 f1 f3 s1 s3 Bf Bs Bq b8 wb z3 b11 x z) (hb : Below z.heap.size z z') {Bf' Bs' Bq' : Nat} (h1 : z'.cell? ⟨Bf', 0, none⟩ = some (.slice f1 (aSt A).length f3)) (h2 : z'.cell? ⟨Bs', 0, none⟩ = some (.slice s1 (aSt B).length s3)) (h3 : z'.cell? ⟨Bq', 0, none⟩ = some (.slice (some ⟨wb, 0, none⟩) A.G A.G)) : QA w0 A B 3 f1 f3 s1 s3 Bf' Bs' Bq' b8 wb z' b11 x z' := by
 have hs := h.low.size
 exact ⟨h.low.trans (hb.mono hs), fun _ => owns_below (h.p1 (by omega)) hb, fun _ => owns_below (h.p2 (by omega)) hb, fun _ => ⟨h.low.trans (hb.mono hs), Below.refl _ _, h1, h2, h3, owns_below (h.p1 (by omega)) hb, owns_below (h.p2 (by omega)) hb⟩, fun hx => ⟨(q9_old hb (h.a11 hx).1).1, (h.a11 hx).2⟩⟩
end
theorem QA.itd {w0 : World} {A B : Ax} {f1 s1 : Option Addr} {f3 s3 Bf Bs Bq b8 wb nb mb b9 b10 : Nat} {V U : Nat → Value} {z3 : World} {b11 : Nat} {x : Bool} {z : World} (h : QA w0 A B 3 f1 f3 s1 s3 Bf Bs Bq b8 wb z3 b11 x z) (hg : Bgm A B b9 b10 b8 wb nb mb V U w0) : ItD z3 z3 z.heap.size (.func (.func 81) #[] #[.pointer (some ⟨Bs, 0, none⟩), .pointer (some ⟨Bf, 0, none⟩), .pointer (some ⟨Bq, 0, none⟩)]) (bS A B) (crP (a_okB A B) (aSt A) (aSt B)) := by
 obtain ⟨g1, g2, g3, g4, g5, g6, g7⟩ := h.p3 jq0
 obtain ⟨hGA, _⟩ := chkA_ok hg.okA
 obtain ⟨hGB, _⟩ := chkA_ok hg.a_okB
 have hgz := hg.below g1
 have hsz := g2.size
 obtain ⟨a, c, hv, ab, ao, ha, hc⟩ := owns_row g6
 obtain ⟨a', c', hv', ab', ao', ha', hc'⟩ := owns_row g7
 rw [cs_len] at ha hc hv ha' hc' hv'
 cases hv
 cases hv'
 refine itd_of (H := B.G) (fb := ab) (fo := ao) (sb := ab') (so := ao') g3 g4 g5 ha (fun i hi => ?_) ha' (fun i hi => ?_) hgz.ls hgz.tb (Or.inl (Nat.lt_of_lt_of_le (World.block_lt_of_cell? _ _ g3) hsz)) (Or.inl (Nat.lt_of_lt_of_le (World.block_lt_of_cell? _ _ g4) hsz)) (Or.inl (Nat.lt_of_lt_of_le (World.block_lt_of_cell? _ _ g5) hsz)) (fun hl => Nat.lt_of_lt_of_le (World.block_lt_of_cell? _ _ (hc 0 hl)) hsz) (fun hl => Nat.lt_of_lt_of_le (World.block_lt_of_cell? _ _ (hc' 0 hl)) hsz) (fun hl => Nat.lt_of_lt_of_le (hgz.ls 0 hl).lt hsz) (Nat.lt_of_lt_of_le (Nat.lt_of_le_of_lt (Nat.zero_le _) (World.block_lt_of_cell? _ _ g3)) hsz) (onN_nodup _ _) (fun y hy => aSt_lt hg.a_okB hy) hGB (fun x hx => aSt_lt hg.okA hx) hGA (fun x y _ => mem_pwS _ _ _ _) (aSt_len hg.okA) (aSt_len hg.a_okB)
 ·have := hc i hi
  simp only [cs_at] at this
  exact this
 ·have := hc' i hi
  simp only [cs_at] at this
  exact this
def ops10 (q0 q1 q2 q3 q4 q5 q6 q7 q8 q9 q10 q11 q12 q13 q14 q15 q16 q17 : String) : Array Oper := #[{ dst := some 51, op := Op.fieldAddr 32 (Operand.tmp 2) 0, type := 0, pos := q0, after := #[], guard := none },
 { dst := some 52, op := Op.load 29 (Operand.tmp 51), type := 29, pos := q1, after := #[{ on := 0, ground := Ground.data }], guard := none },
 { dst := some 53, op := Op.call { callee := Callee.value (Operand.func 35), args := #[Operand.tmp 52], argTypes := #[29] }, type := 29, pos := q2, after := #[{ on := 1, ground := Ground.data }], guard := none },
 { dst := some 54, op := Op.fieldAddr 32 (Operand.tmp 3) 0, type := 0, pos := q3, after := #[], guard := none },
 { dst := some 55, op := Op.load 29 (Operand.tmp 54), type := 29, pos := q4, after := #[{ on := 3, ground := Ground.data }], guard := none },
 { dst := some 56, op := Op.call { callee := Callee.value (Operand.func 35), args := #[Operand.tmp 55], argTypes := #[29] }, type := 29, pos := q5, after := #[{ on := 4, ground := Ground.data }, { on := 2, ground := Ground.chain }], guard := none },
 { dst := some 57, op := Op.load 64 (Operand.tmp 8), type := 64, pos := q6, after := #[], guard := none },
 { dst := some 58, op := Op.call { callee := Callee.value (Operand.func 34), args := #[Operand.tmp 53, Operand.tmp 56, Operand.tmp 57], argTypes := #[29, 29, 64] }, type := 82, pos := q7, after := #[{ on := 2, ground := Ground.data }, { on := 5, ground := Ground.data }, { on := 6, ground := Ground.data }, { on := 5, ground := Ground.chain }], guard := none },
 { dst := some 59, op := Op.makeFunc (.func 36) #[] #[Operand.tmp 9, Operand.tmp 10, Operand.tmp 8], type := 87, pos := q8, after := #[], guard := none },
 { dst := some 60, op := Op.call { callee := Callee.value (Operand.func 33), args := #[Operand.tmp 58, Operand.tmp 59], argTypes := #[82, 87] }, type := 79, pos := q9, after := #[{ on := 7, ground := Ground.data }, { on := 8, ground := Ground.data }, { on := 7, ground := Ground.chain }], guard := none },
 { dst := some 50, op := Op.move (Operand.tmp 60), type := 79, pos := q10, after := #[{ on := 9, ground := Ground.data }], guard := none },
 { dst := some 61, op := Op.extract (Operand.tmp 50) 0, type := 32, pos := q11, after := #[{ on := 10, ground := Ground.data }], guard := none },
 { dst := some 62, op := Op.extract (Operand.tmp 50) 1, type := 78, pos := q12, after := #[{ on := 10, ground := Ground.data }, { on := 15, ground := Ground.gcOnly Departure.lateStores }], guard := none },
 { dst := some 63, op := Op.extract (Operand.tmp 50) 2, type := 33, pos := q13, after := #[{ on := 10, ground := Ground.data }, { on := 16, ground := Ground.gcOnly Departure.lateStores }], guard := none },
 { dst := some 11, op := Op.alloc 32, type := 0, pos := q14, after := #[], guard := none },
 { dst := none, op := Op.store 32 (Operand.tmp 11) (Operand.tmp 61), type := 0, pos := q15, after := #[{ on := 14, ground := Ground.data }, { on := 11, ground := Ground.data }, { on := 9, ground := Ground.chain }, { on := 0, ground := Ground.phase }, { on := 1, ground := Ground.phase }, { on := 2, ground := Ground.phase }, { on := 3, ground := Ground.phase }, { on := 4, ground := Ground.phase }, { on := 5, ground := Ground.phase }, { on := 6, ground := Ground.phase }, { on := 7, ground := Ground.phase }, { on := 8, ground := Ground.phase }, { on := 9, ground := Ground.phase }, { on := 10, ground := Ground.phase }, { on := 11, ground := Ground.phase }, { on := 12, ground := Ground.textOnly Departure.lateStores }, { on := 13, ground := Ground.textOnly Departure.lateStores }, { on := 14, ground := Ground.phase }], guard := none },
 { dst := some 12, op := Op.assign (Operand.tmp 62), type := 78, pos := q16, after := #[{ on := 12, ground := Ground.data }, { on := 15, ground := Ground.chain }, { on := 0, ground := Ground.phase }, { on := 1, ground := Ground.phase }, { on := 2, ground := Ground.phase }, { on := 3, ground := Ground.phase }, { on := 4, ground := Ground.phase }, { on := 5, ground := Ground.phase }, { on := 6, ground := Ground.phase }, { on := 7, ground := Ground.phase }, { on := 8, ground := Ground.phase }, { on := 9, ground := Ground.phase }, { on := 10, ground := Ground.phase }, { on := 11, ground := Ground.phase }, { on := 12, ground := Ground.phase }, { on := 13, ground := Ground.textOnly Departure.lateStores }, { on := 14, ground := Ground.phase }, { on := 15, ground := Ground.phase }], guard := none },
 { dst := some 13, op := Op.assign (Operand.tmp 63), type := 33, pos := q17, after := #[{ on := 13, ground := Ground.data }, { on := 16, ground := Ground.chain }, { on := 0, ground := Ground.phase }, { on := 1, ground := Ground.phase }, { on := 2, ground := Ground.phase }, { on := 3, ground := Ground.phase }, { on := 4, ground := Ground.phase }, { on := 5, ground := Ground.phase }, { on := 6, ground := Ground.phase }, { on := 7, ground := Ground.phase }, { on := 8, ground := Ground.phase }, { on := 9, ground := Ground.phase }, { on := 10, ground := Ground.phase }, { on := 11, ground := Ground.phase }, { on := 12, ground := Ground.phase }, { on := 13, ground := Ground.phase }, { on := 14, ground := Ground.phase }, { on := 15, ground := Ground.phase }, { on := 16, ground := Ground.phase }], guard := none }]
set_option maxRecDepth 100000 in
set_option maxHeartbeats 16000000 in
theorem reg10 {Q : Exit → Act → World → Prop} (A B : Ax) (b2 b3 b8 b9 b10 wb nb mb : Nat) (V U : Nat → Value) (t0 t1 t4 t5 t6 t7 t11 t12 t13 t14 t15 t16 t17 t18 t19 t20 t21 t22 t23 t24 t25 t26 t27 t28 t29 t30 t31 t32 t33 t34 t35 t36 t37 t38 t39 t40 t41 t42 t43 t44 t45 t46 t47 t48 t49 t50 t51 t52 t53 t54 t55 t56 t57 t58 t59 t60 t61 t62 t63 t64 t65 t66 t67 t68 t69 t70 t71 t72 t73 t74 t75 t76 t77 t78 t79 t80 t81 t82 t83 t84 t85 t86 t87 t88 t89 t90 t91 t92 t93 t94 t95 t96 t97 t98 t99 t100 t101 t102 t103 t104 t105 t106 t107 t108 t109 t110 t111 t112 t113 t114 t115 t116 t117 t118 t119 t120 t121 t122 t123 t124 t125 t126 t127 t128 t129 t130 t131 t132 t133 t134 t135 t136 t137 t138 t139 t140 t141 t142 t143 t144 t145 : Value) (q0 q1 q2 q3 q4 q5 q6 q7 q8 q9 q10 q11 q12 q13 q14 q15 q16 q17 : String) (w0 : World) (hQp : ∀ c (a : Act) (t : Nat) v w, Q (.panic c) (a.put (some t) v) w → Q (.panic c) a w) (hA : Aw w0 A) (hB : Aw w0 B) (hboA : Bo w0 b2 A) (hboB : Bo w0 b3 B) (hg : Bgm A B b9 b10 b8 wb nb mb V U w0)
  (hfin : ∀ (b11 : Nat) (f1 : Option Addr) (f3 : Nat) (s1 : Option Addr) (s3 Bf Bs Bq : Nat) (e1 : Option Addr) (e2 e3 : Nat) (n1 : Option Addr) (n2 n3 : Nat) (p1 : Option Addr) (p2 p3 k : Nat) (er : Int) (z : World), Below w0.heap.size w0 z → w0.heap.size ≤ b11 → z.heap[b11]? = some (.cells #[.slice e1 e2 e3, .slice n1 n2 n3, .slice none 0 0, .slice none 0 0, .slice none 0 0] 32) → GaF w0 A B (.slice e1 e2 e3) (.slice n1 n2 n3) (.slice p1 p2 p3) k er z → Q .normal { tmps := #[t0, t1, (.pointer (some ⟨b2, 0, none⟩)), (.pointer (some ⟨b3, 0, none⟩)), t4, t5, t6, t7, (.pointer (some ⟨b8, 0, none⟩)), (.pointer (some ⟨b9, 0, none⟩)), (.pointer (some ⟨b10, 0, none⟩)), (.pointer (some ⟨b11, 0, none⟩)), (.slice p1 p2 p3), (.int .i64 er), t14, t15, t16, t17, t18, t19, t20, t21, t22, t23, t24, t25, t26, t27, t28, t29, t30, t31, t32, t33, t34, t35, t36, t37, t38, t39, t40, t41, t42, t43, t44, t45, t46, t47, t48, t49, (.tuple #[.agg #[.slice e1 e2 e3, .slice n1 n2 n3, .slice none 0 0, .slice none 0 0, .slice none 0 0], .slice p1 p2 p3, .int .i64 er]), (.pointer (some ⟨b2, 0, none⟩)), (.slice A.sa A.sn A.sc), (.slice f1 (aSt A).length f3), (.pointer (some ⟨b3, 0, none⟩)), (.slice B.sa B.sn B.sc), (.slice s1 (aSt B).length s3), (.slice (some ⟨wb, 0, none⟩) A.G A.G), (.func (.func 81) #[] #[.pointer (some ⟨Bs, 0, none⟩), .pointer (some ⟨Bf, 0, none⟩), .pointer (some ⟨Bq, 0, none⟩)]), (.func (.func 36) #[] #[.pointer (some ⟨b9, 0, none⟩), .pointer (some ⟨b10, 0, none⟩), .pointer (some ⟨b8, 0, none⟩)]), (.tuple #[.agg #[.slice e1 e2 e3, .slice n1 n2 n3, .slice none 0 0, .slice none 0 0, .slice none 0 0], .slice p1 p2 p3, .int .i64 er]), (.agg #[.slice e1 e2 e3, .slice n1 n2 n3, .slice none 0 0, .slice none 0 0, .slice none 0 0]), (.slice p1 p2 p3), (.int .i64 er), t64, t65, t66, t67, t68, t69, t70, t71, t72, t73, t74, t75, t76, t77, t78, t79, t80, t81, t82, t83, t84, t85, t86, t87, t88, t89, t90, t91, t92, t93, t94, t95, t96, t97, t98, t99, t100, t101, t102, t103, t104, t105, t106, t107, t108, t109, t110, t111, t112, t113, t114, t115, t116, t117, t118, t119, t120, t121, t122, t123, t124, t125, t126, t127, t128, t129, t130, t131, t132, t133, t134, t135, t136, t137, t138, t139, t140, t141, t142, t143, t144, t145], defers := [] } z) :
  wpAnyG Tryz.prog .any (ops10 q0 q1 q2 q3 q4 q5 q6 q7 q8 q9 q10 q11 q12 q13 q14 q15 q16 q17) Q (fun z : World => z.cell? ⟨b2, 0, none⟩ = some (.slice A.sa A.sn A.sc) ∧ z.cell? ⟨b3, 0, none⟩ = some (.slice B.sa B.sn B.sc) ∧ z.cell? ⟨b8, 0, none⟩ = some (.slice (some ⟨wb, 0, none⟩) A.G A.G)) (fun _ => false) 18 (Array.replicate 18 false) { tmps := #[t0, t1, (.pointer (some ⟨b2, 0, none⟩)), (.pointer (some ⟨b3, 0, none⟩)), t4, t5, t6, t7, (.pointer (some ⟨b8, 0, none⟩)), (.pointer (some ⟨b9, 0, none⟩)), (.pointer (some ⟨b10, 0, none⟩)), t11, t12, t13, t14, t15, t16, t17, t18, t19, t20, t21, t22, t23, t24, t25, t26, t27, t28, t29, t30, t31, t32, t33, t34, t35, t36, t37, t38, t39, t40, t41, t42, t43, t44, t45, t46, t47, t48, t49, t50, t51, t52, t53, t54, t55, t56, t57, t58, t59, t60, t61, t62, t63, t64, t65, t66, t67, t68, t69, t70, t71, t72, t73, t74, t75, t76, t77, t78, t79, t80, t81, t82, t83, t84, t85, t86, t87, t88, t89, t90, t91, t92, t93, t94, t95, t96, t97, t98, t99, t100, t101, t102, t103, t104, t105, t106, t107, t108, t109, t110, t111, t112, t113, t114, t115, t116, t117, t118, t119, t120, t121, t122, t123, t124, t125, t126, t127, t128, t129, t130, t131, t132, t133, t134, t135, t136, t137, t138, t139, t140, t141, t142, t143, t144, t145], defers := [] } w0 := by
 have HS : Hid (∀ z, Below w0.heap.size w0 z → (fun z : World => z.cell? ⟨b2, 0, none⟩ = some (.slice A.sa A.sn A.sc) ∧ z.cell? ⟨b3, 0, none⟩ = some (.slice B.sa B.sn B.sc) ∧ z.cell? ⟨b8, 0, none⟩ = some (.slice (some ⟨wb, 0, none⟩) A.G A.G)) z) := hid (fun z hz => ⟨(hboA.below hz).r0, (hboB.below hz).r0, (hg.below hz).bw⟩)
 have C41 : ∀ (D : Ax), Aw w0 D → chkA D = 0 → Hid (∀ z, Below w0.heap.size w0 z → Calls Tryz.prog 35 #[.slice D.sa D.sn D.sc] z fun e w' => ∃ a c, e = .returned (.slice a (aSt D).length c) ∧ Hid (w'.ownsRow (z.heap.size + 1) 3 1 (.slice a (aSt D).length c) (cs (aSt D)).length (vals (cs (aSt D))) ∧ Below z.heap.size z w')) := fun D hD hD0 => hid (fun z hz => by
  obtain ⟨hG, _, _, _, hS, _⟩ := chkA_ok hD0
  refine (once_any D.sa D.sn D.sc D.S z hD.s47 ((hD.below hz).start) (fun i hi => by have := hS i hi; omega)).mono ?_
  rintro e w' ⟨v, rfl, h1, h2, _⟩
  obtain ⟨a, c, rfl, _⟩ := owns_row h1
  exact ⟨a, c, by rw [cs_len]; rfl, hid ⟨by rw [show (aSt D).length = (cs (aSt D)).length from (cs_len _).symm]; exact h1, h2⟩⟩)
 have CA := C41 A hA hg.okA
 have CB := C41 B hB hg.a_okB
 have HG := hid hg
 have HFIN := hid hfin
 have HQP := hid hQp
 have hmf : ∀ (fn : Fn) (first cap : Array Value) (w : World), (Instr.makeFunc fn first cap).run Tryz.prog w = .ok (.func fn first cap) w := fun _ _ _ _ => rfl
 clear hfin hA hB hg hboA hboB C41 hQp
 have J3x : Hid (∀ (f1 : Option Addr) (f3 : Nat) (s1 : Option Addr) (s3 Bf Bs Bq b11 : Nat) (z3 z : World), QA w0 A B 3 f1 f3 s1 s3 Bf Bs Bq b8 wb z3 b11 true z → wpAnyG Tryz.prog .any (ops10 q0 q1 q2 q3 q4 q5 q6 q7 q8 q9 q10 q11 q12 q13 q14 q15 q16 q17) Q (fun z : World => z.cell? ⟨b2, 0, none⟩ = some (.slice A.sa A.sn A.sc) ∧ z.cell? ⟨b3, 0, none⟩ = some (.slice B.sa B.sn B.sc) ∧ z.cell? ⟨b8, 0, none⟩ = some (.slice (some ⟨wb, 0, none⟩) A.G A.G)) (fun _ => false) 8 #[true, true, true, true, true, true, true, true, true, false, false, false, false, false, true, false, false, false] { tmps := #[t0, t1, (.pointer (some ⟨b2, 0, none⟩)), (.pointer (some ⟨b3, 0, none⟩)), t4, t5, t6, t7, (.pointer (some ⟨b8, 0, none⟩)), (.pointer (some ⟨b9, 0, none⟩)), (.pointer (some ⟨b10, 0, none⟩)), (.pointer (some ⟨b11, 0, none⟩)), t12, t13, t14, t15, t16, t17, t18, t19, t20, t21, t22, t23, t24, t25, t26, t27, t28, t29, t30, t31, t32, t33, t34, t35, t36, t37, t38, t39, t40, t41, t42, t43, t44, t45, t46, t47, t48, t49, t50, (.pointer (some ⟨b2, 0, none⟩)), (.slice A.sa A.sn A.sc), (.slice f1 (aSt A).length f3), (.pointer (some ⟨b3, 0, none⟩)), (.slice B.sa B.sn B.sc), (.slice s1 (aSt B).length s3), (.slice (some ⟨wb, 0, none⟩) A.G A.G), (.func (.func 81) #[] #[.pointer (some ⟨Bs, 0, none⟩), .pointer (some ⟨Bf, 0, none⟩), .pointer (some ⟨Bq, 0, none⟩)]), (.func (.func 36) #[] #[.pointer (some ⟨b9, 0, none⟩), .pointer (some ⟨b10, 0, none⟩), .pointer (some ⟨b8, 0, none⟩)]), t60, t61, t62, t63, t64, t65, t66, t67, t68, t69, t70, t71, t72, t73, t74, t75, t76, t77, t78, t79, t80, t81, t82, t83, t84, t85, t86, t87, t88, t89, t90, t91, t92, t93, t94, t95, t96, t97, t98, t99, t100, t101, t102, t103, t104, t105, t106, t107, t108, t109, t110, t111, t112, t113, t114, t115, t116, t117, t118, t119, t120, t121, t122, t123, t124, t125, t126, t127, t128, t129, t130, t131, t132, t133, t134, t135, t136, t137, t138, t139, t140, t141, t142, t143, t144, t145], defers := [] } z) := hid (by
  intro f1 f3 s1 s3 Bf Bs Bq b11 z3 z hq
  refine G_alt (l := [9]) (by kernel_rfl) (by decide) ?_
  intro i hi
  obtain rfl : i = 9 := by simpa using hi
  clear hi
  ·refine ⟨{ dst := some 60, op := Op.call { callee := Callee.value (Operand.func 33), args := #[Operand.tmp 58, Operand.tmp 59], argTypes := #[82, 87] }, type := 79, pos := _, after := #[{ on := 7, ground := Ground.data }, { on := 8, ground := Ground.data }, { on := 7, ground := Ground.chain }], guard := none }, rfl, fun K' hK => ?_⟩
   have CG := hid (gather42_any _ #[.pointer (some ⟨b9, 0, none⟩), .pointer (some ⟨b10, 0, none⟩), .pointer (some ⟨b8, 0, none⟩)] (crP (a_okB A B) (aSt A) (aSt B)) (bX A B) (bP A B) z z3 (hq.p3 jq0).2.1 (by have hm : (crP (a_okB A B) (aSt A) (aSt B)).map prn = bS A B := prn_mks (fun p hp => bP_sml HG.out.okA HG.out.a_okB (bP_start HG.out.okA HG.out.a_okB p hp)); rw [hm]; exact hq.itd HG.out) _ _ _ rfl (fun q hq2 => by obtain ⟨p, hp, rfl⟩ := List.mem_map.1 hq2; rw [prn_mk (bP_sml HG.out.okA HG.out.a_okB (bP_start HG.out.okA HG.out.a_okB p hp))]; exact bP_start HG.out.okA HG.out.a_okB p hp) (bP_next HG.out.okA HG.out.a_okB) (fun p u hu hp => b42 A B b9 b10 b8 wb nb mb V U p z u (HG.out.below hq.low) hu hp))
   have HQ := hid hq
   clear hq
   go_simp
   refine CG.out.mono ?_
   intro e z4 hGa
   obtain ⟨e1, e2, e3, n1, n2, n3, p1, p2, p3, k, er, rfl, H4⟩ := gaf_of HG.out.okA HG.out.a_okB hGa w0 HQ.out.low.size
   clear hGa CG
   dsimp only
   have hl4 : Below w0.heap.size w0 z4 := HQ.out.low.trans (H4.out.1.mono HQ.out.low.size)
   have hS0 := HS.out z4 hl4
   have HL4 := hid hl4
   have HA := hid (And.intro (q9_old H4.out.1 (HQ.out.a11 rfl).1).1 (HQ.out.a11 rfl).2)
   clear hl4
   refine hK.out _ _ (fun _ => hS0) (fun _ => ?_)
   (try simp only [jq1, jq2, jq3])
   refine G_take (i := 10) (oi := { dst := some 50, op := Op.move (Operand.tmp 60), type := 79, pos := _, after := #[{ on := 9, ground := Ground.data }], guard := none }) (v := .tuple #[.agg #[.slice e1 e2 e3, .slice n1 n2 n3, .slice none 0 0, .slice none 0 0, .slice none 0 0], .slice p1 p2 p3, .int .i64 er]) rfl (by kernel_rfl) (by kernel_rfl) (by kernel_rfl) (by kernel_rfl) (fun c a w h => HQP.out _ _ _ _ _ h) (by rfl) (fun u hu => ?_) hS0 ?_
   ·(try dsimp only at hu); go_simp
   (try simp only [Act.put, jq1, jq2, jq3])
   refine G_take (i := 11) (oi := { dst := some 61, op := Op.extract (Operand.tmp 50) 0, type := 32, pos := _, after := #[{ on := 10, ground := Ground.data }], guard := none }) (v := .agg #[.slice e1 e2 e3, .slice n1 n2 n3, .slice none 0 0, .slice none 0 0, .slice none 0 0]) rfl (by kernel_rfl) (by kernel_rfl) (by kernel_rfl) (by kernel_rfl) (fun c a w h => HQP.out _ _ _ _ _ h) (by rfl) (fun u hu => ?_) hS0 ?_
   ·(try dsimp only at hu); go_simp
   (try simp only [Act.put, jq1, jq2, jq3])
   refine G_take (i := 12) (oi := { dst := some 62, op := Op.extract (Operand.tmp 50) 1, type := 78, pos := _, after := #[{ on := 10, ground := Ground.data }, { on := 15, ground := Ground.gcOnly Departure.lateStores }], guard := none }) (v := .slice p1 p2 p3) rfl (by kernel_rfl) (by kernel_rfl) (by kernel_rfl) (by kernel_rfl) (fun c a w h => HQP.out _ _ _ _ _ h) (by rfl) (fun u hu => ?_) hS0 ?_
   ·(try dsimp only at hu); go_simp
   (try simp only [Act.put, jq1, jq2, jq3])
   refine G_take (i := 13) (oi := { dst := some 63, op := Op.extract (Operand.tmp 50) 2, type := 33, pos := _, after := #[{ on := 10, ground := Ground.data }, { on := 16, ground := Ground.gcOnly Departure.lateStores }], guard := none }) (v := .int .i64 er) rfl (by kernel_rfl) (by kernel_rfl) (by kernel_rfl) (by kernel_rfl) (fun c a w h => HQP.out _ _ _ _ _ h) (by rfl) (fun u hu => ?_) hS0 ?_
   ·(try dsimp only at hu); go_simp
   (try simp only [Act.put, jq1, jq2, jq3])
   have HL5 := HL4
   have HF5 := hid H4.out.2
   obtain ⟨⟨y0, y1, y2, y3, y4⟩, yf⟩ := five_cells HA.out.1
   have g0 := yf 0
   have g1 := yf 1
   have g2 := yf 2
   have g3 := yf 3
   have g4 := yf 4
   obtain ⟨X, hX⟩ : ∃ X, (((((z4.setCell ⟨b11, 0, none⟩ (.slice e1 e2 e3)).setCell ⟨b11, 1, none⟩ (.slice n1 n2 n3)).setCell ⟨b11, 2, none⟩ (.slice none 0 0)).setCell ⟨b11, 3, none⟩ (.slice none 0 0)).setCell ⟨b11, 4, none⟩ (.slice none 0 0)) = X := ⟨_, rfl⟩
   obtain ⟨hx5, hxb⟩ := set5 _ _ _ _ _ HA.out.1 hX
   have HX := hid (And.intro hx5 (And.intro (HL5.out.trans (hxb.below HA.out.2 HL5.out.size)) (HF5.out.keep (fun b c t q h1 h2 => hxb.block b (jq4.1 h1).1 (fun e => h2 (by rw [e, HA.out.1] at h1; cases h1; rfl))))))
   clear yf hx5 hxb hS0
   refine G_step (i := 15) (o := { dst := none, op := Op.store 32 (Operand.tmp 11) (Operand.tmp 61), type := 0, pos := _, after := #[{ on := 14, ground := Ground.data }, { on := 11, ground := Ground.data }, { on := 9, ground := Ground.chain }, { on := 0, ground := Ground.phase }, { on := 1, ground := Ground.phase }, { on := 2, ground := Ground.phase }, { on := 3, ground := Ground.phase }, { on := 4, ground := Ground.phase }, { on := 5, ground := Ground.phase }, { on := 6, ground := Ground.phase }, { on := 7, ground := Ground.phase }, { on := 8, ground := Ground.phase }, { on := 9, ground := Ground.phase }, { on := 10, ground := Ground.phase }, { on := 11, ground := Ground.phase }, { on := 12, ground := Ground.textOnly Departure.lateStores }, { on := 13, ground := Ground.textOnly Departure.lateStores }, { on := 14, ground := Ground.phase }], guard := none }) (by kernel_rfl) rfl (fun K' hK => ?_)
   go_simp
   refine hK.out _ _ (fun _ => HS.out _ HX.out.2.1) (fun _ => ?_)
   (try simp only [jq1, jq2, jq3])
   clear y0 y1 y2 y3 y4 g0 g1 g2 g3 g4 hX
   have hS0 := HS.out _ HX.out.2.1
   refine G_take (i := 16) (oi := { dst := some 12, op := Op.assign (Operand.tmp 62), type := 78, pos := _, after := #[{ on := 12, ground := Ground.data }, { on := 15, ground := Ground.chain }, { on := 0, ground := Ground.phase }, { on := 1, ground := Ground.phase }, { on := 2, ground := Ground.phase }, { on := 3, ground := Ground.phase }, { on := 4, ground := Ground.phase }, { on := 5, ground := Ground.phase }, { on := 6, ground := Ground.phase }, { on := 7, ground := Ground.phase }, { on := 8, ground := Ground.phase }, { on := 9, ground := Ground.phase }, { on := 10, ground := Ground.phase }, { on := 11, ground := Ground.phase }, { on := 12, ground := Ground.phase }, { on := 13, ground := Ground.textOnly Departure.lateStores }, { on := 14, ground := Ground.phase }, { on := 15, ground := Ground.phase }], guard := none }) (v := .slice p1 p2 p3) rfl (by kernel_rfl) (by kernel_rfl) (by kernel_rfl) (by kernel_rfl) (fun c a w h => HQP.out _ _ _ _ _ h) (by rfl) (fun u hu => ?_) hS0 ?_
   ·(try dsimp only at hu); go_simp
   (try simp only [Act.put, jq1, jq2, jq3])
   refine G_take (i := 17) (oi := { dst := some 13, op := Op.assign (Operand.tmp 63), type := 33, pos := _, after := #[{ on := 13, ground := Ground.data }, { on := 16, ground := Ground.chain }, { on := 0, ground := Ground.phase }, { on := 1, ground := Ground.phase }, { on := 2, ground := Ground.phase }, { on := 3, ground := Ground.phase }, { on := 4, ground := Ground.phase }, { on := 5, ground := Ground.phase }, { on := 6, ground := Ground.phase }, { on := 7, ground := Ground.phase }, { on := 8, ground := Ground.phase }, { on := 9, ground := Ground.phase }, { on := 10, ground := Ground.phase }, { on := 11, ground := Ground.phase }, { on := 12, ground := Ground.phase }, { on := 13, ground := Ground.phase }, { on := 14, ground := Ground.phase }, { on := 15, ground := Ground.phase }, { on := 16, ground := Ground.phase }], guard := none }) (v := .int .i64 er) rfl (by kernel_rfl) (by kernel_rfl) (by kernel_rfl) (by kernel_rfl) (fun c a w h => HQP.out _ _ _ _ _ h) (by rfl) (fun u hu => ?_) hS0 ?_
   ·(try dsimp only at hu); go_simp
   (try simp only [Act.put, jq1, jq2, jq3])
   refine G_done (by kernel_rfl) ?_ _
   exact HFIN.out b11 f1 f3 s1 s3 Bf Bs Bq e1 e2 e3 n1 n2 n3 p1 p2 p3 k er X HX.out.2.1 HA.out.2 HX.out.1 HX.out.2.2)
 have J3o : Hid (∀ (f1 : Option Addr) (f3 : Nat) (s1 : Option Addr) (s3 Bf Bs Bq b11 : Nat) (z3 z : World), QA w0 A B 3 f1 f3 s1 s3 Bf Bs Bq b8 wb z3 b11 false z → wpAnyG Tryz.prog .any (ops10 q0 q1 q2 q3 q4 q5 q6 q7 q8 q9 q10 q11 q12 q13 q14 q15 q16 q17) Q (fun z : World => z.cell? ⟨b2, 0, none⟩ = some (.slice A.sa A.sn A.sc) ∧ z.cell? ⟨b3, 0, none⟩ = some (.slice B.sa B.sn B.sc) ∧ z.cell? ⟨b8, 0, none⟩ = some (.slice (some ⟨wb, 0, none⟩) A.G A.G)) (fun _ => false) 9 #[true, true, true, true, true, true, true, true, true, false, false, false, false, false, false, false, false, false] { tmps := #[t0, t1, (.pointer (some ⟨b2, 0, none⟩)), (.pointer (some ⟨b3, 0, none⟩)), t4, t5, t6, t7, (.pointer (some ⟨b8, 0, none⟩)), (.pointer (some ⟨b9, 0, none⟩)), (.pointer (some ⟨b10, 0, none⟩)), t11, t12, t13, t14, t15, t16, t17, t18, t19, t20, t21, t22, t23, t24, t25, t26, t27, t28, t29, t30, t31, t32, t33, t34, t35, t36, t37, t38, t39, t40, t41, t42, t43, t44, t45, t46, t47, t48, t49, t50, (.pointer (some ⟨b2, 0, none⟩)), (.slice A.sa A.sn A.sc), (.slice f1 (aSt A).length f3), (.pointer (some ⟨b3, 0, none⟩)), (.slice B.sa B.sn B.sc), (.slice s1 (aSt B).length s3), (.slice (some ⟨wb, 0, none⟩) A.G A.G), (.func (.func 81) #[] #[.pointer (some ⟨Bs, 0, none⟩), .pointer (some ⟨Bf, 0, none⟩), .pointer (some ⟨Bq, 0, none⟩)]), (.func (.func 36) #[] #[.pointer (some ⟨b9, 0, none⟩), .pointer (some ⟨b10, 0, none⟩), .pointer (some ⟨b8, 0, none⟩)]), t60, t61, t62, t63, t64, t65, t66, t67, t68, t69, t70, t71, t72, t73, t74, t75, t76, t77, t78, t79, t80, t81, t82, t83, t84, t85, t86, t87, t88, t89, t90, t91, t92, t93, t94, t95, t96, t97, t98, t99, t100, t101, t102, t103, t104, t105, t106, t107, t108, t109, t110, t111, t112, t113, t114, t115, t116, t117, t118, t119, t120, t121, t122, t123, t124, t125, t126, t127, t128, t129, t130, t131, t132, t133, t134, t135, t136, t137, t138, t139, t140, t141, t142, t143, t144, t145], defers := [] } z) := hid (by
  intro f1 f3 s1 s3 Bf Bs Bq b11 z3 z hq
  refine G_alt (l := [9, 14]) (by kernel_rfl) (by decide) ?_
  intro i hi
  have hi2 : i = 9 ∨ i = 14 := by simpa using hi
  clear hi
  rcases hi2 with rfl | rfl
  ·refine ⟨{ dst := some 60, op := Op.call { callee := Callee.value (Operand.func 33), args := #[Operand.tmp 58, Operand.tmp 59], argTypes := #[82, 87] }, type := 79, pos := _, after := #[{ on := 7, ground := Ground.data }, { on := 8, ground := Ground.data }, { on := 7, ground := Ground.chain }], guard := none }, rfl, fun K' hK => ?_⟩
   have CG := hid (gather42_any _ #[.pointer (some ⟨b9, 0, none⟩), .pointer (some ⟨b10, 0, none⟩), .pointer (some ⟨b8, 0, none⟩)] (crP (a_okB A B) (aSt A) (aSt B)) (bX A B) (bP A B) z z3 (hq.p3 jq0).2.1 (by have hm : (crP (a_okB A B) (aSt A) (aSt B)).map prn = bS A B := prn_mks (fun p hp => bP_sml HG.out.okA HG.out.a_okB (bP_start HG.out.okA HG.out.a_okB p hp)); rw [hm]; exact hq.itd HG.out) _ _ _ rfl (fun q hq2 => by obtain ⟨p, hp, rfl⟩ := List.mem_map.1 hq2; rw [prn_mk (bP_sml HG.out.okA HG.out.a_okB (bP_start HG.out.okA HG.out.a_okB p hp))]; exact bP_start HG.out.okA HG.out.a_okB p hp) (bP_next HG.out.okA HG.out.a_okB) (fun p u hu hp => b42 A B b9 b10 b8 wb nb mb V U p z u (HG.out.below hq.low) hu hp))
   have HQ := hid hq
   clear hq
   go_simp
   refine CG.out.mono ?_
   intro e z4 hGa
   obtain ⟨e1, e2, e3, n1, n2, n3, p1, p2, p3, k, er, rfl, H4⟩ := gaf_of HG.out.okA HG.out.a_okB hGa w0 HQ.out.low.size
   clear hGa CG
   dsimp only
   have hl4 : Below w0.heap.size w0 z4 := HQ.out.low.trans (H4.out.1.mono HQ.out.low.size)
   have hS0 := HS.out z4 hl4
   have HL4 := hid hl4
   clear hl4
   refine hK.out _ _ (fun _ => hS0) (fun _ => ?_)
   (try simp only [jq1, jq2, jq3])
   refine G_take (i := 10) (oi := { dst := some 50, op := Op.move (Operand.tmp 60), type := 79, pos := _, after := #[{ on := 9, ground := Ground.data }], guard := none }) (v := .tuple #[.agg #[.slice e1 e2 e3, .slice n1 n2 n3, .slice none 0 0, .slice none 0 0, .slice none 0 0], .slice p1 p2 p3, .int .i64 er]) rfl (by kernel_rfl) (by kernel_rfl) (by kernel_rfl) (by kernel_rfl) (fun c a w h => HQP.out _ _ _ _ _ h) (by rfl) (fun u hu => ?_) hS0 ?_
   ·(try dsimp only at hu); go_simp
   (try simp only [Act.put, jq1, jq2, jq3])
   refine G_take (i := 11) (oi := { dst := some 61, op := Op.extract (Operand.tmp 50) 0, type := 32, pos := _, after := #[{ on := 10, ground := Ground.data }], guard := none }) (v := .agg #[.slice e1 e2 e3, .slice n1 n2 n3, .slice none 0 0, .slice none 0 0, .slice none 0 0]) rfl (by kernel_rfl) (by kernel_rfl) (by kernel_rfl) (by kernel_rfl) (fun c a w h => HQP.out _ _ _ _ _ h) (by rfl) (fun u hu => ?_) hS0 ?_
   ·(try dsimp only at hu); go_simp
   (try simp only [Act.put, jq1, jq2, jq3])
   refine G_take (i := 12) (oi := { dst := some 62, op := Op.extract (Operand.tmp 50) 1, type := 78, pos := _, after := #[{ on := 10, ground := Ground.data }, { on := 15, ground := Ground.gcOnly Departure.lateStores }], guard := none }) (v := .slice p1 p2 p3) rfl (by kernel_rfl) (by kernel_rfl) (by kernel_rfl) (by kernel_rfl) (fun c a w h => HQP.out _ _ _ _ _ h) (by rfl) (fun u hu => ?_) hS0 ?_
   ·(try dsimp only at hu); go_simp
   (try simp only [Act.put, jq1, jq2, jq3])
   refine G_take (i := 13) (oi := { dst := some 63, op := Op.extract (Operand.tmp 50) 2, type := 33, pos := _, after := #[{ on := 10, ground := Ground.data }, { on := 16, ground := Ground.gcOnly Departure.lateStores }], guard := none }) (v := .int .i64 er) rfl (by kernel_rfl) (by kernel_rfl) (by kernel_rfl) (by kernel_rfl) (fun c a w h => HQP.out _ _ _ _ _ h) (by rfl) (fun u hu => ?_) hS0 ?_
   ·(try dsimp only at hu); go_simp
   (try simp only [Act.put, jq1, jq2, jq3])
   have ha := box_below z4 (.cells nil5 32)
   have hn : (z4.alloc (.cells nil5 32)).heap[z4.heap.size]? = some (.cells nil5 32) := Go.Deep.blk_alloc_new _ _
   have HA := hid (And.intro hn HL4.out.size)
   have HL5 := hid (HL4.out.trans (ha.mono HL4.out.size))
   have HF5 := hid (H4.out.2.keep (fun b c t q h1 _ => ha.block b (jq4.1 h1).1))
   clear ha hn
   refine G_step (i := 14) (o := { dst := some 11, op := Op.alloc 32, type := 0, pos := _, after := #[], guard := none }) (by kernel_rfl) rfl (fun K' hK => ?_)
   go_simp
   refine hK.out _ _ (fun _ => HS.out _ HL5.out) (fun _ => ?_)
   (try simp only [jq1, jq2, jq3])
   generalize z4.alloc (.cells nil5 32) = z5 at *
   obtain ⟨⟨y0, y1, y2, y3, y4⟩, yf⟩ := five_cells HA.out.1
   have g0 := yf 0
   have g1 := yf 1
   have g2 := yf 2
   have g3 := yf 3
   have g4 := yf 4
   obtain ⟨X, hX⟩ : ∃ X, (((((z5.setCell ⟨z4.heap.size, 0, none⟩ (.slice e1 e2 e3)).setCell ⟨z4.heap.size, 1, none⟩ (.slice n1 n2 n3)).setCell ⟨z4.heap.size, 2, none⟩ (.slice none 0 0)).setCell ⟨z4.heap.size, 3, none⟩ (.slice none 0 0)).setCell ⟨z4.heap.size, 4, none⟩ (.slice none 0 0)) = X := ⟨_, rfl⟩
   obtain ⟨hx5, hxb⟩ := set5 _ _ _ _ _ HA.out.1 hX
   have HX := hid (And.intro hx5 (And.intro (HL5.out.trans (hxb.below HA.out.2 HL5.out.size)) (HF5.out.keep (fun b c t q h1 h2 => hxb.block b (jq4.1 h1).1 (fun e => h2 (by rw [e, HA.out.1] at h1; cases h1; rfl))))))
   clear yf hx5 hxb hS0
   refine G_step (i := 15) (o := { dst := none, op := Op.store 32 (Operand.tmp 11) (Operand.tmp 61), type := 0, pos := _, after := #[{ on := 14, ground := Ground.data }, { on := 11, ground := Ground.data }, { on := 9, ground := Ground.chain }, { on := 0, ground := Ground.phase }, { on := 1, ground := Ground.phase }, { on := 2, ground := Ground.phase }, { on := 3, ground := Ground.phase }, { on := 4, ground := Ground.phase }, { on := 5, ground := Ground.phase }, { on := 6, ground := Ground.phase }, { on := 7, ground := Ground.phase }, { on := 8, ground := Ground.phase }, { on := 9, ground := Ground.phase }, { on := 10, ground := Ground.phase }, { on := 11, ground := Ground.phase }, { on := 12, ground := Ground.textOnly Departure.lateStores }, { on := 13, ground := Ground.textOnly Departure.lateStores }, { on := 14, ground := Ground.phase }], guard := none }) (by kernel_rfl) rfl (fun K' hK => ?_)
   go_simp
   refine hK.out _ _ (fun _ => HS.out _ HX.out.2.1) (fun _ => ?_)
   (try simp only [jq1, jq2, jq3])
   clear y0 y1 y2 y3 y4 g0 g1 g2 g3 g4 hX
   have hS0 := HS.out _ HX.out.2.1
   refine G_take (i := 16) (oi := { dst := some 12, op := Op.assign (Operand.tmp 62), type := 78, pos := _, after := #[{ on := 12, ground := Ground.data }, { on := 15, ground := Ground.chain }, { on := 0, ground := Ground.phase }, { on := 1, ground := Ground.phase }, { on := 2, ground := Ground.phase }, { on := 3, ground := Ground.phase }, { on := 4, ground := Ground.phase }, { on := 5, ground := Ground.phase }, { on := 6, ground := Ground.phase }, { on := 7, ground := Ground.phase }, { on := 8, ground := Ground.phase }, { on := 9, ground := Ground.phase }, { on := 10, ground := Ground.phase }, { on := 11, ground := Ground.phase }, { on := 12, ground := Ground.phase }, { on := 13, ground := Ground.textOnly Departure.lateStores }, { on := 14, ground := Ground.phase }, { on := 15, ground := Ground.phase }], guard := none }) (v := .slice p1 p2 p3) rfl (by kernel_rfl) (by kernel_rfl) (by kernel_rfl) (by kernel_rfl) (fun c a w h => HQP.out _ _ _ _ _ h) (by rfl) (fun u hu => ?_) hS0 ?_
   ·(try dsimp only at hu); go_simp
   (try simp only [Act.put, jq1, jq2, jq3])
   refine G_take (i := 17) (oi := { dst := some 13, op := Op.assign (Operand.tmp 63), type := 33, pos := _, after := #[{ on := 13, ground := Ground.data }, { on := 16, ground := Ground.chain }, { on := 0, ground := Ground.phase }, { on := 1, ground := Ground.phase }, { on := 2, ground := Ground.phase }, { on := 3, ground := Ground.phase }, { on := 4, ground := Ground.phase }, { on := 5, ground := Ground.phase }, { on := 6, ground := Ground.phase }, { on := 7, ground := Ground.phase }, { on := 8, ground := Ground.phase }, { on := 9, ground := Ground.phase }, { on := 10, ground := Ground.phase }, { on := 11, ground := Ground.phase }, { on := 12, ground := Ground.phase }, { on := 13, ground := Ground.phase }, { on := 14, ground := Ground.phase }, { on := 15, ground := Ground.phase }, { on := 16, ground := Ground.phase }], guard := none }) (v := .int .i64 er) rfl (by kernel_rfl) (by kernel_rfl) (by kernel_rfl) (by kernel_rfl) (fun c a w h => HQP.out _ _ _ _ _ h) (by rfl) (fun u hu => ?_) hS0 ?_
   ·(try dsimp only at hu); go_simp
   (try simp only [Act.put, jq1, jq2, jq3])
   refine G_done (by kernel_rfl) ?_ _
   exact HFIN.out z4.heap.size f1 f3 s1 s3 Bf Bs Bq e1 e2 e3 n1 n2 n3 p1 p2 p3 k er X HX.out.2.1 HA.out.2 HX.out.1 HX.out.2.2
  ·refine ⟨{ dst := some 11, op := Op.alloc 32, type := 0, pos := _, after := #[], guard := none }, rfl, fun K' hK => ?_⟩
   have HQ := hid hq.al
   clear hq
   go_simp
   refine hK.out _ _ (fun _ => HS.out _ HQ.out.low) (fun _ => ?_)
   (try simp only [jq1, jq2, jq3])
   exact J3x.out f1 f3 s1 s3 Bf Bs Bq z.heap.size z3 _ HQ.out)
 have J2x : Hid (∀ (f1 : Option Addr) (f3 : Nat) (s1 : Option Addr) (s3 Bf Bs Bq b11 : Nat) (z3 z : World), QA w0 A B 2 f1 f3 s1 s3 Bf Bs Bq b8 wb z3 b11 true z → wpAnyG Tryz.prog .any (ops10 q0 q1 q2 q3 q4 q5 q6 q7 q8 q9 q10 q11 q12 q13 q14 q15 q16 q17) Q (fun z : World => z.cell? ⟨b2, 0, none⟩ = some (.slice A.sa A.sn A.sc) ∧ z.cell? ⟨b3, 0, none⟩ = some (.slice B.sa B.sn B.sc) ∧ z.cell? ⟨b8, 0, none⟩ = some (.slice (some ⟨wb, 0, none⟩) A.G A.G)) (fun _ => false) 9 #[true, true, true, true, true, true, true, false, true, false, false, false, false, false, true, false, false, false] { tmps := #[t0, t1, (.pointer (some ⟨b2, 0, none⟩)), (.pointer (some ⟨b3, 0, none⟩)), t4, t5, t6, t7, (.pointer (some ⟨b8, 0, none⟩)), (.pointer (some ⟨b9, 0, none⟩)), (.pointer (some ⟨b10, 0, none⟩)), (.pointer (some ⟨b11, 0, none⟩)), t12, t13, t14, t15, t16, t17, t18, t19, t20, t21, t22, t23, t24, t25, t26, t27, t28, t29, t30, t31, t32, t33, t34, t35, t36, t37, t38, t39, t40, t41, t42, t43, t44, t45, t46, t47, t48, t49, t50, (.pointer (some ⟨b2, 0, none⟩)), (.slice A.sa A.sn A.sc), (.slice f1 (aSt A).length f3), (.pointer (some ⟨b3, 0, none⟩)), (.slice B.sa B.sn B.sc), (.slice s1 (aSt B).length s3), (.slice (some ⟨wb, 0, none⟩) A.G A.G), t58, (.func (.func 36) #[] #[.pointer (some ⟨b9, 0, none⟩), .pointer (some ⟨b10, 0, none⟩), .pointer (some ⟨b8, 0, none⟩)]), t60, t61, t62, t63, t64, t65, t66, t67, t68, t69, t70, t71, t72, t73, t74, t75, t76, t77, t78, t79, t80, t81, t82, t83, t84, t85, t86, t87, t88, t89, t90, t91, t92, t93, t94, t95, t96, t97, t98, t99, t100, t101, t102, t103, t104, t105, t106, t107, t108, t109, t110, t111, t112, t113, t114, t115, t116, t117, t118, t119, t120, t121, t122, t123, t124, t125, t126, t127, t128, t129, t130, t131, t132, t133, t134, t135, t136, t137, t138, t139, t140, t141, t142, t143, t144, t145], defers := [] } z) := hid (by
  intro f1 f3 s1 s3 Bf Bs Bq b11 z3 z hq
  refine G_alt (l := [7]) (by kernel_rfl) (by decide) ?_
  intro i hi
  obtain rfl : i = 7 := by simpa using hi
  clear hi
  ·refine ⟨{ dst := some 58, op := Op.call { callee := Callee.value (Operand.func 34), args := #[Operand.tmp 53, Operand.tmp 56, Operand.tmp 57], argTypes := #[29, 29, 64] }, type := 82, pos := _, after := #[{ on := 2, ground := Ground.data }, { on := 5, ground := Ground.data }, { on := 6, ground := Ground.data }, { on := 5, ground := Ground.chain }], guard := none }, rfl, fun K' hK => ?_⟩
   have hz := hq.low
   have HQ := hid hq
   clear hq
   go_simp
   refine (cross40 f1 (aSt A).length f3 s1 (aSt B).length s3 (some ⟨wb, 0, none⟩) A.G A.G z).mono ?_
   rintro e z1 ⟨Cf, Cs, Cq, rfl, H1⟩
   dsimp only
   have hq1 := HQ.out.k3 H1.out.2.1 H1.out.2.2.1 H1.out.2.2.2.1 H1.out.2.2.2.2
   refine hK.out _ _ (fun _ => HS.out _ hq1.low) (fun _ => ?_)
   (try simp only [jq1, jq2, jq3])
   exact J3x.out f1 f3 s1 s3 Cf Cs Cq b11 z1 z1 hq1)
 have J2o : Hid (∀ (f1 : Option Addr) (f3 : Nat) (s1 : Option Addr) (s3 Bf Bs Bq b11 : Nat) (z3 z : World), QA w0 A B 2 f1 f3 s1 s3 Bf Bs Bq b8 wb z3 b11 false z → wpAnyG Tryz.prog .any (ops10 q0 q1 q2 q3 q4 q5 q6 q7 q8 q9 q10 q11 q12 q13 q14 q15 q16 q17) Q (fun z : World => z.cell? ⟨b2, 0, none⟩ = some (.slice A.sa A.sn A.sc) ∧ z.cell? ⟨b3, 0, none⟩ = some (.slice B.sa B.sn B.sc) ∧ z.cell? ⟨b8, 0, none⟩ = some (.slice (some ⟨wb, 0, none⟩) A.G A.G)) (fun _ => false) 10 #[true, true, true, true, true, true, true, false, true, false, false, false, false, false, false, false, false, false] { tmps := #[t0, t1, (.pointer (some ⟨b2, 0, none⟩)), (.pointer (some ⟨b3, 0, none⟩)), t4, t5, t6, t7, (.pointer (some ⟨b8, 0, none⟩)), (.pointer (some ⟨b9, 0, none⟩)), (.pointer (some ⟨b10, 0, none⟩)), t11, t12, t13, t14, t15, t16, t17, t18, t19, t20, t21, t22, t23, t24, t25, t26, t27, t28, t29, t30, t31, t32, t33, t34, t35, t36, t37, t38, t39, t40, t41, t42, t43, t44, t45, t46, t47, t48, t49, t50, (.pointer (some ⟨b2, 0, none⟩)), (.slice A.sa A.sn A.sc), (.slice f1 (aSt A).length f3), (.pointer (some ⟨b3, 0, none⟩)), (.slice B.sa B.sn B.sc), (.slice s1 (aSt B).length s3), (.slice (some ⟨wb, 0, none⟩) A.G A.G), t58, (.func (.func 36) #[] #[.pointer (some ⟨b9, 0, none⟩), .pointer (some ⟨b10, 0, none⟩), .pointer (some ⟨b8, 0, none⟩)]), t60, t61, t62, t63, t64, t65, t66, t67, t68, t69, t70, t71, t72, t73, t74, t75, t76, t77, t78, t79, t80, t81, t82, t83, t84, t85, t86, t87, t88, t89, t90, t91, t92, t93, t94, t95, t96, t97, t98, t99, t100, t101, t102, t103, t104, t105, t106, t107, t108, t109, t110, t111, t112, t113, t114, t115, t116, t117, t118, t119, t120, t121, t122, t123, t124, t125, t126, t127, t128, t129, t130, t131, t132, t133, t134, t135, t136, t137, t138, t139, t140, t141, t142, t143, t144, t145], defers := [] } z) := hid (by
  intro f1 f3 s1 s3 Bf Bs Bq b11 z3 z hq
  refine G_alt (l := [7, 14]) (by kernel_rfl) (by decide) ?_
  intro i hi
  have hi2 : i = 7 ∨ i = 14 := by simpa using hi
  clear hi
  rcases hi2 with rfl | rfl
  ·refine ⟨{ dst := some 58, op := Op.call { callee := Callee.value (Operand.func 34), args := #[Operand.tmp 53, Operand.tmp 56, Operand.tmp 57], argTypes := #[29, 29, 64] }, type := 82, pos := _, after := #[{ on := 2, ground := Ground.data }, { on := 5, ground := Ground.data }, { on := 6, ground := Ground.data }, { on := 5, ground := Ground.chain }], guard := none }, rfl, fun K' hK => ?_⟩
   have hz := hq.low
   have HQ := hid hq
   clear hq
   go_simp
   refine (cross40 f1 (aSt A).length f3 s1 (aSt B).length s3 (some ⟨wb, 0, none⟩) A.G A.G z).mono ?_
   rintro e z1 ⟨Cf, Cs, Cq, rfl, H1⟩
   dsimp only
   have hq1 := HQ.out.k3 H1.out.2.1 H1.out.2.2.1 H1.out.2.2.2.1 H1.out.2.2.2.2
   refine hK.out _ _ (fun _ => HS.out _ hq1.low) (fun _ => ?_)
   (try simp only [jq1, jq2, jq3])
   exact J3o.out f1 f3 s1 s3 Cf Cs Cq b11 z1 z1 hq1
  ·refine ⟨{ dst := some 11, op := Op.alloc 32, type := 0, pos := _, after := #[], guard := none }, rfl, fun K' hK => ?_⟩
   have HQ := hid hq.al
   clear hq
   go_simp
   refine hK.out _ _ (fun _ => HS.out _ HQ.out.low) (fun _ => ?_)
   (try simp only [jq1, jq2, jq3])
   exact J2x.out f1 f3 s1 s3 Bf Bs Bq z.heap.size z3 _ HQ.out)
 have J1x : Hid (∀ (f1 : Option Addr) (f3 : Nat) (s1 : Option Addr) (s3 Bf Bs Bq b11 : Nat) (z3 z : World), QA w0 A B 1 f1 f3 s1 s3 Bf Bs Bq b8 wb z3 b11 true z → wpAnyG Tryz.prog .any (ops10 q0 q1 q2 q3 q4 q5 q6 q7 q8 q9 q10 q11 q12 q13 q14 q15 q16 q17) Q (fun z : World => z.cell? ⟨b2, 0, none⟩ = some (.slice A.sa A.sn A.sc) ∧ z.cell? ⟨b3, 0, none⟩ = some (.slice B.sa B.sn B.sc) ∧ z.cell? ⟨b8, 0, none⟩ = some (.slice (some ⟨wb, 0, none⟩) A.G A.G)) (fun _ => false) 10 #[true, true, true, true, true, false, true, false, true, false, false, false, false, false, true, false, false, false] { tmps := #[t0, t1, (.pointer (some ⟨b2, 0, none⟩)), (.pointer (some ⟨b3, 0, none⟩)), t4, t5, t6, t7, (.pointer (some ⟨b8, 0, none⟩)), (.pointer (some ⟨b9, 0, none⟩)), (.pointer (some ⟨b10, 0, none⟩)), (.pointer (some ⟨b11, 0, none⟩)), t12, t13, t14, t15, t16, t17, t18, t19, t20, t21, t22, t23, t24, t25, t26, t27, t28, t29, t30, t31, t32, t33, t34, t35, t36, t37, t38, t39, t40, t41, t42, t43, t44, t45, t46, t47, t48, t49, t50, (.pointer (some ⟨b2, 0, none⟩)), (.slice A.sa A.sn A.sc), (.slice f1 (aSt A).length f3), (.pointer (some ⟨b3, 0, none⟩)), (.slice B.sa B.sn B.sc), t56, (.slice (some ⟨wb, 0, none⟩) A.G A.G), t58, (.func (.func 36) #[] #[.pointer (some ⟨b9, 0, none⟩), .pointer (some ⟨b10, 0, none⟩), .pointer (some ⟨b8, 0, none⟩)]), t60, t61, t62, t63, t64, t65, t66, t67, t68, t69, t70, t71, t72, t73, t74, t75, t76, t77, t78, t79, t80, t81, t82, t83, t84, t85, t86, t87, t88, t89, t90, t91, t92, t93, t94, t95, t96, t97, t98, t99, t100, t101, t102, t103, t104, t105, t106, t107, t108, t109, t110, t111, t112, t113, t114, t115, t116, t117, t118, t119, t120, t121, t122, t123, t124, t125, t126, t127, t128, t129, t130, t131, t132, t133, t134, t135, t136, t137, t138, t139, t140, t141, t142, t143, t144, t145], defers := [] } z) := hid (by
  intro f1 f3 s1 s3 Bf Bs Bq b11 z3 z hq
  refine G_alt (l := [5]) (by kernel_rfl) (by decide) ?_
  intro i hi
  obtain rfl : i = 5 := by simpa using hi
  clear hi
  ·refine ⟨{ dst := some 56, op := Op.call { callee := Callee.value (Operand.func 35), args := #[Operand.tmp 55], argTypes := #[29] }, type := 29, pos := _, after := #[{ on := 4, ground := Ground.data }, { on := 2, ground := Ground.chain }], guard := none }, rfl, fun K' hK => ?_⟩
   have hz := hq.low
   have HQ := hid hq
   clear hq
   go_simp
   refine (CB.out z hz).mono ?_
   rintro e z1 ⟨a1, c1, rfl, H1⟩
   dsimp only
   have hq1 := HQ.out.k2 H1.out.2 H1.out.1
   refine hK.out _ _ (fun _ => HS.out _ hq1.low) (fun _ => ?_)
   (try simp only [jq1, jq2, jq3])
   exact J2x.out f1 f3 a1 c1 Bf Bs Bq b11 z3 z1 hq1)
 have J1o : Hid (∀ (f1 : Option Addr) (f3 : Nat) (s1 : Option Addr) (s3 Bf Bs Bq b11 : Nat) (z3 z : World), QA w0 A B 1 f1 f3 s1 s3 Bf Bs Bq b8 wb z3 b11 false z → wpAnyG Tryz.prog .any (ops10 q0 q1 q2 q3 q4 q5 q6 q7 q8 q9 q10 q11 q12 q13 q14 q15 q16 q17) Q (fun z : World => z.cell? ⟨b2, 0, none⟩ = some (.slice A.sa A.sn A.sc) ∧ z.cell? ⟨b3, 0, none⟩ = some (.slice B.sa B.sn B.sc) ∧ z.cell? ⟨b8, 0, none⟩ = some (.slice (some ⟨wb, 0, none⟩) A.G A.G)) (fun _ => false) 11 #[true, true, true, true, true, false, true, false, true, false, false, false, false, false, false, false, false, false] { tmps := #[t0, t1, (.pointer (some ⟨b2, 0, none⟩)), (.pointer (some ⟨b3, 0, none⟩)), t4, t5, t6, t7, (.pointer (some ⟨b8, 0, none⟩)), (.pointer (some ⟨b9, 0, none⟩)), (.pointer (some ⟨b10, 0, none⟩)), t11, t12, t13, t14, t15, t16, t17, t18, t19, t20, t21, t22, t23, t24, t25, t26, t27, t28, t29, t30, t31, t32, t33, t34, t35, t36, t37, t38, t39, t40, t41, t42, t43, t44, t45, t46, t47, t48, t49, t50, (.pointer (some ⟨b2, 0, none⟩)), (.slice A.sa A.sn A.sc), (.slice f1 (aSt A).length f3), (.pointer (some ⟨b3, 0, none⟩)), (.slice B.sa B.sn B.sc), t56, (.slice (some ⟨wb, 0, none⟩) A.G A.G), t58, (.func (.func 36) #[] #[.pointer (some ⟨b9, 0, none⟩), .pointer (some ⟨b10, 0, none⟩), .pointer (some ⟨b8, 0, none⟩)]), t60, t61, t62, t63, t64, t65, t66, t67, t68, t69, t70, t71, t72, t73, t74, t75, t76, t77, t78, t79, t80, t81, t82, t83, t84, t85, t86, t87, t88, t89, t90, t91, t92, t93, t94, t95, t96, t97, t98, t99, t100, t101, t102, t103, t104, t105, t106, t107, t108, t109, t110, t111, t112, t113, t114, t115, t116, t117, t118, t119, t120, t121, t122, t123, t124, t125, t126, t127, t128, t129, t130, t131, t132, t133, t134, t135, t136, t137, t138, t139, t140, t141, t142, t143, t144, t145], defers := [] } z) := hid (by
  intro f1 f3 s1 s3 Bf Bs Bq b11 z3 z hq
  refine G_alt (l := [5, 14]) (by kernel_rfl) (by decide) ?_
  intro i hi
  have hi2 : i = 5 ∨ i = 14 := by simpa using hi
  clear hi
  rcases hi2 with rfl | rfl
  ·refine ⟨{ dst := some 56, op := Op.call { callee := Callee.value (Operand.func 35), args := #[Operand.tmp 55], argTypes := #[29] }, type := 29, pos := _, after := #[{ on := 4, ground := Ground.data }, { on := 2, ground := Ground.chain }], guard := none }, rfl, fun K' hK => ?_⟩
   have hz := hq.low
   have HQ := hid hq
   clear hq
   go_simp
   refine (CB.out z hz).mono ?_
   rintro e z1 ⟨a1, c1, rfl, H1⟩
   dsimp only
   have hq1 := HQ.out.k2 H1.out.2 H1.out.1
   refine hK.out _ _ (fun _ => HS.out _ hq1.low) (fun _ => ?_)
   (try simp only [jq1, jq2, jq3])
   exact J2o.out f1 f3 a1 c1 Bf Bs Bq b11 z3 z1 hq1
  ·refine ⟨{ dst := some 11, op := Op.alloc 32, type := 0, pos := _, after := #[], guard := none }, rfl, fun K' hK => ?_⟩
   have HQ := hid hq.al
   clear hq
   go_simp
   refine hK.out _ _ (fun _ => HS.out _ HQ.out.low) (fun _ => ?_)
   (try simp only [jq1, jq2, jq3])
   exact J1x.out f1 f3 s1 s3 Bf Bs Bq z.heap.size z3 _ HQ.out)
 have J0x : Hid (∀ (f1 : Option Addr) (f3 : Nat) (s1 : Option Addr) (s3 Bf Bs Bq b11 : Nat) (z3 z : World), QA w0 A B 0 f1 f3 s1 s3 Bf Bs Bq b8 wb z3 b11 true z → wpAnyG Tryz.prog .any (ops10 q0 q1 q2 q3 q4 q5 q6 q7 q8 q9 q10 q11 q12 q13 q14 q15 q16 q17) Q (fun z : World => z.cell? ⟨b2, 0, none⟩ = some (.slice A.sa A.sn A.sc) ∧ z.cell? ⟨b3, 0, none⟩ = some (.slice B.sa B.sn B.sc) ∧ z.cell? ⟨b8, 0, none⟩ = some (.slice (some ⟨wb, 0, none⟩) A.G A.G)) (fun _ => false) 11 #[true, true, false, true, true, false, true, false, true, false, false, false, false, false, true, false, false, false] { tmps := #[t0, t1, (.pointer (some ⟨b2, 0, none⟩)), (.pointer (some ⟨b3, 0, none⟩)), t4, t5, t6, t7, (.pointer (some ⟨b8, 0, none⟩)), (.pointer (some ⟨b9, 0, none⟩)), (.pointer (some ⟨b10, 0, none⟩)), (.pointer (some ⟨b11, 0, none⟩)), t12, t13, t14, t15, t16, t17, t18, t19, t20, t21, t22, t23, t24, t25, t26, t27, t28, t29, t30, t31, t32, t33, t34, t35, t36, t37, t38, t39, t40, t41, t42, t43, t44, t45, t46, t47, t48, t49, t50, (.pointer (some ⟨b2, 0, none⟩)), (.slice A.sa A.sn A.sc), t53, (.pointer (some ⟨b3, 0, none⟩)), (.slice B.sa B.sn B.sc), t56, (.slice (some ⟨wb, 0, none⟩) A.G A.G), t58, (.func (.func 36) #[] #[.pointer (some ⟨b9, 0, none⟩), .pointer (some ⟨b10, 0, none⟩), .pointer (some ⟨b8, 0, none⟩)]), t60, t61, t62, t63, t64, t65, t66, t67, t68, t69, t70, t71, t72, t73, t74, t75, t76, t77, t78, t79, t80, t81, t82, t83, t84, t85, t86, t87, t88, t89, t90, t91, t92, t93, t94, t95, t96, t97, t98, t99, t100, t101, t102, t103, t104, t105, t106, t107, t108, t109, t110, t111, t112, t113, t114, t115, t116, t117, t118, t119, t120, t121, t122, t123, t124, t125, t126, t127, t128, t129, t130, t131, t132, t133, t134, t135, t136, t137, t138, t139, t140, t141, t142, t143, t144, t145], defers := [] } z) := hid (by
  intro f1 f3 s1 s3 Bf Bs Bq b11 z3 z hq
  refine G_alt (l := [2]) (by kernel_rfl) (by decide) ?_
  intro i hi
  obtain rfl : i = 2 := by simpa using hi
  clear hi
  ·refine ⟨{ dst := some 53, op := Op.call { callee := Callee.value (Operand.func 35), args := #[Operand.tmp 52], argTypes := #[29] }, type := 29, pos := _, after := #[{ on := 1, ground := Ground.data }], guard := none }, rfl, fun K' hK => ?_⟩
   have hz := hq.low
   have HQ := hid hq
   clear hq
   go_simp
   refine (CA.out z hz).mono ?_
   rintro e z1 ⟨a1, c1, rfl, H1⟩
   dsimp only
   have hq1 := HQ.out.k1 H1.out.2 H1.out.1
   refine hK.out _ _ (fun _ => HS.out _ hq1.low) (fun _ => ?_)
   (try simp only [jq1, jq2, jq3])
   exact J1x.out a1 c1 s1 s3 Bf Bs Bq b11 z3 z1 hq1)
 have J0o : Hid (∀ (f1 : Option Addr) (f3 : Nat) (s1 : Option Addr) (s3 Bf Bs Bq b11 : Nat) (z3 z : World), QA w0 A B 0 f1 f3 s1 s3 Bf Bs Bq b8 wb z3 b11 false z → wpAnyG Tryz.prog .any (ops10 q0 q1 q2 q3 q4 q5 q6 q7 q8 q9 q10 q11 q12 q13 q14 q15 q16 q17) Q (fun z : World => z.cell? ⟨b2, 0, none⟩ = some (.slice A.sa A.sn A.sc) ∧ z.cell? ⟨b3, 0, none⟩ = some (.slice B.sa B.sn B.sc) ∧ z.cell? ⟨b8, 0, none⟩ = some (.slice (some ⟨wb, 0, none⟩) A.G A.G)) (fun _ => false) 12 #[true, true, false, true, true, false, true, false, true, false, false, false, false, false, false, false, false, false] { tmps := #[t0, t1, (.pointer (some ⟨b2, 0, none⟩)), (.pointer (some ⟨b3, 0, none⟩)), t4, t5, t6, t7, (.pointer (some ⟨b8, 0, none⟩)), (.pointer (some ⟨b9, 0, none⟩)), (.pointer (some ⟨b10, 0, none⟩)), t11, t12, t13, t14, t15, t16, t17, t18, t19, t20, t21, t22, t23, t24, t25, t26, t27, t28, t29, t30, t31, t32, t33, t34, t35, t36, t37, t38, t39, t40, t41, t42, t43, t44, t45, t46, t47, t48, t49, t50, (.pointer (some ⟨b2, 0, none⟩)), (.slice A.sa A.sn A.sc), t53, (.pointer (some ⟨b3, 0, none⟩)), (.slice B.sa B.sn B.sc), t56, (.slice (some ⟨wb, 0, none⟩) A.G A.G), t58, (.func (.func 36) #[] #[.pointer (some ⟨b9, 0, none⟩), .pointer (some ⟨b10, 0, none⟩), .pointer (some ⟨b8, 0, none⟩)]), t60, t61, t62, t63, t64, t65, t66, t67, t68, t69, t70, t71, t72, t73, t74, t75, t76, t77, t78, t79, t80, t81, t82, t83, t84, t85, t86, t87, t88, t89, t90, t91, t92, t93, t94, t95, t96, t97, t98, t99, t100, t101, t102, t103, t104, t105, t106, t107, t108, t109, t110, t111, t112, t113, t114, t115, t116, t117, t118, t119, t120, t121, t122, t123, t124, t125, t126, t127, t128, t129, t130, t131, t132, t133, t134, t135, t136, t137, t138, t139, t140, t141, t142, t143, t144, t145], defers := [] } z) := hid (by
  intro f1 f3 s1 s3 Bf Bs Bq b11 z3 z hq
  refine G_alt (l := [2, 14]) (by kernel_rfl) (by decide) ?_
  intro i hi
  have hi2 : i = 2 ∨ i = 14 := by simpa using hi
  clear hi
  rcases hi2 with rfl | rfl
  ·refine ⟨{ dst := some 53, op := Op.call { callee := Callee.value (Operand.func 35), args := #[Operand.tmp 52], argTypes := #[29] }, type := 29, pos := _, after := #[{ on := 1, ground := Ground.data }], guard := none }, rfl, fun K' hK => ?_⟩
   have hz := hq.low
   have HQ := hid hq
   clear hq
   go_simp
   refine (CA.out z hz).mono ?_
   rintro e z1 ⟨a1, c1, rfl, H1⟩
   dsimp only
   have hq1 := HQ.out.k1 H1.out.2 H1.out.1
   refine hK.out _ _ (fun _ => HS.out _ hq1.low) (fun _ => ?_)
   (try simp only [jq1, jq2, jq3])
   exact J1o.out a1 c1 s1 s3 Bf Bs Bq b11 z3 z1 hq1
  ·refine ⟨{ dst := some 11, op := Op.alloc 32, type := 0, pos := _, after := #[], guard := none }, rfl, fun K' hK => ?_⟩
   have HQ := hid hq.al
   clear hq
   go_simp
   refine hK.out _ _ (fun _ => HS.out _ HQ.out.low) (fun _ => ?_)
   (try simp only [jq1, jq2, jq3])
   exact J0x.out f1 f3 s1 s3 Bf Bs Bq z.heap.size z3 _ HQ.out)
 have hS0 := HS.out w0 (Below.refl _ _)
 refine G_take (i := 0) (oi := { dst := some 51, op := Op.fieldAddr 32 (Operand.tmp 2) 0, type := 0, pos := _, after := #[], guard := none }) (v := .pointer (some ⟨b2, 0, none⟩)) rfl (by kernel_rfl) (by kernel_rfl) (by kernel_rfl) (by kernel_rfl) (fun c a w h => HQP.out _ _ _ _ _ h) (by rfl) (fun u hu => ?_) hS0 ?_
 ·(try dsimp only at hu); go_simp
 (try simp only [Act.put, jq1, jq2, jq3])
 refine G_take (i := 1) (oi := { dst := some 52, op := Op.load 29 (Operand.tmp 51), type := 29, pos := _, after := #[{ on := 0, ground := Ground.data }], guard := none }) (v := .slice A.sa A.sn A.sc) rfl (by kernel_rfl) (by kernel_rfl) (by kernel_rfl) (by kernel_rfl) (fun c a w h => HQP.out _ _ _ _ _ h) (by rfl) (fun u hu => ?_) hS0 ?_
 ·(try dsimp only at hu); go_simp
 (try simp only [Act.put, jq1, jq2, jq3])
 refine G_take (i := 3) (oi := { dst := some 54, op := Op.fieldAddr 32 (Operand.tmp 3) 0, type := 0, pos := _, after := #[], guard := none }) (v := .pointer (some ⟨b3, 0, none⟩)) rfl (by kernel_rfl) (by kernel_rfl) (by kernel_rfl) (by kernel_rfl) (fun c a w h => HQP.out _ _ _ _ _ h) (by rfl) (fun u hu => ?_) hS0 ?_
 ·(try dsimp only at hu); go_simp
 (try simp only [Act.put, jq1, jq2, jq3])
 refine G_take (i := 4) (oi := { dst := some 55, op := Op.load 29 (Operand.tmp 54), type := 29, pos := _, after := #[{ on := 3, ground := Ground.data }], guard := none }) (v := .slice B.sa B.sn B.sc) rfl (by kernel_rfl) (by kernel_rfl) (by kernel_rfl) (by kernel_rfl) (fun c a w h => HQP.out _ _ _ _ _ h) (by rfl) (fun u hu => ?_) hS0 ?_
 ·(try dsimp only at hu); go_simp
 (try simp only [Act.put, jq1, jq2, jq3])
 refine G_take (i := 6) (oi := { dst := some 57, op := Op.load 64 (Operand.tmp 8), type := 64, pos := _, after := #[], guard := none }) (v := .slice (some ⟨wb, 0, none⟩) A.G A.G) rfl (by kernel_rfl) (by kernel_rfl) (by kernel_rfl) (by kernel_rfl) (fun c a w h => HQP.out _ _ _ _ _ h) (by rfl) (fun u hu => ?_) hS0 ?_
 ·(try dsimp only at hu); go_simp
 (try simp only [Act.put, jq1, jq2, jq3])
 refine G_take (i := 8) (oi := { dst := some 59, op := Op.makeFunc (.func 36) #[] #[Operand.tmp 9, Operand.tmp 10, Operand.tmp 8], type := 87, pos := _, after := #[], guard := none }) (v := .func (.func 36) #[] #[.pointer (some ⟨b9, 0, none⟩), .pointer (some ⟨b10, 0, none⟩), .pointer (some ⟨b8, 0, none⟩)]) rfl (by kernel_rfl) (by kernel_rfl) (by kernel_rfl) (by kernel_rfl) (fun c a w h => HQP.out _ _ _ _ _ h) (by rfl) (fun u hu => ?_) hS0 ?_
 ·(try dsimp only at hu); go_simp
 (try simp only [Act.put, jq1, jq2, jq3])
 exact J0o.out none 0 none 0 0 0 0 0 w0 w0 ⟨Below.refl _ _, fun h => by omega, fun h => by omega, fun h => by omega, fun h => (by cases h)⟩
end Go.Proofs.YtmdpbaobihdgkaaGreatDoor
