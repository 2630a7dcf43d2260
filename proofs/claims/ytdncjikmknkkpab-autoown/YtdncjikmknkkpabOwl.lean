/- The law AutoOwn. -/
import Derived.Test.YtdncjikmknkkpabOwb
import Derived.Deep.DeepCutAuto
namespace Go.Proofs.Ytdncjikmknkkpab
open Go.RowKit Go.Shelf

section
variable {α : Type} [DecidableEq α]
theorem nRun_nodup (nx : α → List α) : ∀ (f n : Nat) {l : List α}, l.Nodup → (nRun nx f n l).Nodup
  | 0, _, _, h => h
  | f + 1, n, l, h => by
    by_cases e : n < l.length
    · rw [nRun_some (List.getElem?_eq_getElem e)]
      exact nRun_nodup nx f (n + 1) (nAdds_nodup _ h)
    · rw [nRun_none (by omega)]; exact h
theorem nAll_nodup (nx : α → List α) (f : Nat) (start : List α) : (nAll nx f start).Nodup := nRun_nodup nx f 0 (nAdds_nodup _ List.nodup_nil)
end
theorem mem_aSt {A : Ax} (h : chkA A = 0) {x : Nat} : x ∈ aSt A ↔ has A.sn A.S x = true := by
  obtain ⟨_, _, _, _, h1, _⟩ := chkA_ok h
  unfold aSt has
  rw [mem_onN, decide_eq_true_eq]
  constructor
  · rintro ⟨i, hi, e⟩; have := h1 i hi; exact ⟨i, hi, by omega⟩
  · rintro ⟨i, hi, e⟩; exact ⟨i, hi, by omega⟩

theorem onA_chk (b1 b4 b5 b6 b8 : Nat) : chkA (onA b1 b4 b5 b6 b8) = 0 := by
  have h1 : allIn 2 (fun i => (i : Int)) ((2 : Nat) : Int) = true := allIn_yes (fun i hi => by omega)
  have h2 : okL 2 (fun _ => 2) (fun _ i => (i : Int)) 2 = true := decide_eq_true (fun r _ => h1)
  have h3 : okL 1 (fun _ => 1) (fun _ i => (i : Int)) 2 = true := decide_eq_true (fun r _ => allIn_yes (fun i hi => by have h5 : i < 1 := hi; show (0 : Int) ≤ (i : Int) ∧ (i : Int) < ((2 : Nat) : Int); omega))
  unfold chkA onA
  dsimp only
  rw [if_neg (by omega), if_neg (by omega), if_pos ⟨h1, h2, h3⟩]

section
variable {P : Program} {ops : Array Oper} {Q : Exit → Act → World → Prop} {md : Region.Mode} {S : World → Prop} {ex : Nat → Bool}
/-- Whichever of those that are ready comes up. -/
theorem G_alt {f : Nat} {listed : Array Bool} {a : Act} {w : World} {l : List Nat} (hr : Region.ready md ops listed = l) (hl : l ≠ [])
    (h : ∀ i, i ∈ l → ∃ o, ops[i]? = some o ∧ ∀ K' : Act → World → Prop, Shut (∀ a w, (ex i = false → S w) → ((ex i = false → S w) → wpAnyG P md ops Q S ex f (listed.setIfInBounds i true) a w) → K' a w) → if Region.wanted o (yielded ops a.tmps) = true then Oper.wp P o a w K' Q else K' (a.put o.dst undef) w) :
    wpAnyG P md ops Q S ex (f + 1) listed a w := by
  refine ⟨fun h0 => absurd (hr.symm.trans h0) hl, fun j hj => ?_⟩
  rw [hr] at hj
  obtain ⟨o, ho, hh⟩ := h j hj
  exact wpOp_step ho (fun K' hK => hh K' (fun a w hS hW => hK a w ⟨hS, hW hS⟩))
end

theorem RmAll.below {w w' : World} {B : Nat} {ga : Option Addr} {G : Nat} {L : Nat → Nat} {Z : Nat → Nat → Int} (h : RmAll w B ga G L Z) (hb : Below w.heap.size w w') : RmAll w' B ga G L Z := by
  obtain ⟨b, o, h1, h2⟩ := h
  refine ⟨b, o, h1, fun r hr => ?_⟩
  obtain ⟨v, h3, h4⟩ := h2 r hr
  exact ⟨v, below_cell hb (Nat.le_refl _) h3, h4.below hb⟩
theorem Spq.below {lo hi B : Nat} {w W W' : World} (h : Spq lo hi W W') (hB : Below B w W) (hl : B ≤ lo) : Below B w W' :=
  ⟨h.os.trans hB.os, h.tape.trans hB.tape, h.output.trans hB.output, by rw [h.size]; exact hB.size, fun k hk => (h.out k (Or.inl (by omega))).trans (hB.block k hk)⟩
theorem Spq.auto {lo hi : Nat} {W W' : World} (h : Spq lo hi W W') {b : Nat} {c : Array Value} (hb : W.heap[b]? = some (.cells c 26)) : W'.heap[b]? = some (.cells c 26) :=
  (h.other b (fun c2 t hc => by rw [hb] at hc; cases hc; decide)).trans hb

/-- Single of a small automaton is right, and has a state. -/
theorem ones_single (b1 b4 b5 b6 b8 : Nat) (w : World) (h : Aw w (onA b1 b4 b5 b6 b8)) : Calls Try.prog 4 #[(onA b1 b4 b5 b6 b8).val] w fun e w' => ∃ (sa : Option Addr) (sn sc : Nat) (na : Option Addr) (k nc : Nat) (ma : Option Addr) (M mc : Nat) (oa : Option Addr) (O oc : Nat) (fa : Option Addr) (K fc : Nat), e = .returned (.tuple #[.agg #[.slice sa sn sc, .slice na k nc, .slice ma M mc, .slice oa O oc, .slice fa K fc], .int .i64 0]) ∧ Hid (0 < k ∧ Below w.heap.size w w') := by
  refine (single_any _ w h).mono ?_
  intro e w' hs
  have h0 := onA_chk b1 b4 b5 b6 b8
  obtain ⟨sa, sn, sc, na, G, nc, ma, M, mc, oa, O, oc, fa, K, fc, er, rfl, HH⟩ := si_cases hs
  have hall := fun k => sgL_all h0 k
  have hlen : ∀ k, (sgL (onA b1 b4 b5 b6 b8) k).length ≤ 2 := fun k => by
    have := nodup_le (U := [(0, 0), (1, 0)]) (nAll_nodup (sgX (onA b1 b4 b5 b6 b8)) k (sgS (onA b1 b4 b5 b6 b8))) (fun p hp => by
      obtain ⟨h1, h2⟩ := hall k p hp
      obtain ⟨x, y⟩ := p
      have h1' : x < 2 := h1
      have h2' : y < 1 := h2
      obtain rfl : y = 0 := by omega
      have : x = 0 ∨ x = 1 := by omega
      rcases this with rfl | rfl <;> simp)
    exact this
  have her : er = 0 := Classical.byContradiction (fun hne => by
    rcases HH.out.2.2 hne with h1 | ⟨k, h1⟩
    · exact h1 h0
    · have := hlen k; omega)
  subst her
  obtain ⟨_, k, ga, gc, g, V, h1, h2, h3, h4, h5, h6, h7, hO⟩ := HH.out.2.1 rfl
  refine ⟨sa, sn, sc, na, G, nc, ma, M, mc, oa, O, oc, fa, K, fc, rfl, hid ⟨?_, HH.out.1⟩⟩
  rw [h2, ← hO.hk]
  have hm : (0, 0) ∈ sgL (onA b1 b4 b5 b6 b8) k := nAll_start (List.mem_map.2 ⟨0, (mem_aSt h0).2 (by unfold has onA; simp), rfl⟩)
  exact List.length_pos_of_mem hm

theorem box5g (w : World) (x0 x1 x2 x3 x4 : Value) : ∃ W, w.alloc (.cells #[x0, x1, x2, x3, x4] 26) = W ∧ Below w.heap.size w W ∧ W.heap[w.heap.size]? = some (.cells #[x0, x1, x2, x3, x4] 26) := ⟨_, rfl, box_below _ _, Go.Deep.blk_alloc_new _ _⟩

/-- The copy begins. -/
theorem inn_start {w0 Y X : World} {A : Ax} {B5 : Nat} {sv mv ov : Value} (hb : Below w0.heap.size w0 Y) (hB : w0.heap.size ≤ B5) (hs : Rm 3 .i64 Y w0.heap.size sv A.sn A.S) (hm : Rm 33 .u64 Y w0.heap.size mv A.M (fun i => (A.Mu i : Int))) (ho : Rm 33 .u64 Y w0.heap.size ov A.O (fun i => (A.No i : Int)))
    (ha : Y.heap[B5]? = some (.cells nil5 26)) (hX : (((((Y.setCell ⟨B5, 0, none⟩ sv).setCell ⟨B5, 1, none⟩ (.slice none 0 0)).setCell ⟨B5, 2, none⟩ mv).setCell ⟨B5, 3, none⟩ ov).setCell ⟨B5, 4, none⟩ (.slice none 0 0)) = X) : Inn w0 A B5 sv (.slice none 0 0) mv ov (.slice none 0 0) 0 0 [] [] X := by
  obtain ⟨hx5, hxb⟩ := set5 _ _ _ _ _ ha hX
  have hrm : ∀ {t : TypeId} {K : IntKind} {v : Value} {n : Nat} {Z : Nat → Int}, t ≠ 26 → Rm t K Y w0.heap.size v n Z → Rm t K X w0.heap.size v n Z := fun {t K v n Z} h1 h2 => h2.of_blk (fun g c _ hg => hxb.block g (Array.getElem?_eq_some_iff.1 hg).1 (fun e => by
    rw [e, ha] at hg
    cases hg
    exact h1 rfl))
  exact ⟨hx5, hB, hrm (by decide) hs, hrm (by decide) hm, hrm (by decide) ho, World.ownsRow_nil _ _ _ _, fun r hr => absurd hr (Nat.not_lt_zero _), World.ownsRow_nil _ _ _ _, fun r hr => absurd hr (Nat.not_lt_zero _), hb.trans (hxb.below hB hb.size), fun b hb => by simp [Value.ownBlock] at hb⟩

theorem Spo.below {t : TypeId} {w w' : World} {lo hi : Nat} {v : Value} (h : Spo t w lo hi v) (hb : Below w.heap.size w w') : Spo t w' lo hi v := by
  obtain ⟨g, n, cap, cur, h1, h2, h3, h4, r⟩ := h
  exact ⟨g, n, cap, cur, h1, h2, h3, (hb.block g (Array.getElem?_eq_some_iff.1 h4).1).trans h4, r⟩

theorem five_c {W : World} {b : Nat} {v0 v1 v2 v3 v4 : Value} (h : W.heap[b]? = some (.cells #[v0, v1, v2, v3, v4] 26)) : (W.cell? ⟨b, 0, none⟩ = some v0 ∧ W.cell? ⟨b, 1, none⟩ = some v1 ∧ W.cell? ⟨b, 2, none⟩ = some v2 ∧ W.cell? ⟨b, 3, none⟩ = some v3 ∧ W.cell? ⟨b, 4, none⟩ = some v4) ∧ ∀ i, W.frozen? ⟨b, i, none⟩ = false := five_cells h

set_option maxRecDepth 100000 in
set_option maxHeartbeats 16000000 in
theorem autoOwn_walk (A : Ax) (w : World) (h : Aw w A) (ho : Ao w A) : Calls Try.prog 3 #[A.val] w fun e w' => e = .returned (.bool true) ∧ Below w.heap.size w w' := by
  obtain ⟨na, hna⟩ : ∃ q, A.na = q := ⟨_, rfl⟩
  obtain ⟨fa, hfa⟩ : ∃ q, A.fa = q := ⟨_, rfl⟩
  have hval : A.val = .agg #[.slice A.sa A.sn A.sc, .slice na A.G A.nc, .slice A.ma A.M A.mc, .slice A.oa A.O A.oc, .slice fa A.K A.fc] := by rw [← hna, ← hfa]; rfl
  have HV := hid hval
  have HNA := hid hna
  have HFA := hid hfa
  rw [hval]
  clear hna hfa hval
  obtain ⟨W1, hW1, hb1, hk1⟩ := box5g w (.slice A.sa A.sn A.sc) (.slice na A.G A.nc) (.slice A.ma A.M A.mc) (.slice A.oa A.O A.oc) (.slice fa A.K A.fc)
  have H := hid h
  have HO := hid ho
  have HB1 := hid hb1
  have HK1 := hid hk1
  have C5 := hid (ones_any W1)
  clear h ho hb1 hk1
  go_enter Try.func3, Try.ntmps3
  go_wp2_with fail
  refine C5.out.mono ?_
  rintro e w2 ⟨⟨b1, b4, b5, b6, b8, rfl, hon⟩, hb2⟩
  have C4 := hid (ones_single b1 b4 b5 b6 b8 w2 hon)
  have HB2 := hid hb2
  clear hon hb2 C5
  go_wp2_with fail
  refine C4.out.mono ?_
  rintro e w3 ⟨xa, xn, xc, ya, k, yc, za, zn, zc, ua, un, uc, va, vn, vc, rfl, HK3⟩
  obtain ⟨W4, hW4, hb4, hk4⟩ := box5g w3 (.slice xa xn xc) (.slice ya k yc) (.slice za zn zc) (.slice ua un uc) (.slice va vn vc)
  have h14 : Below W1.heap.size W1 W4 := (HB2.out.trans (HK3.out.2.mono HB2.out.size)).trans (hb4.mono (Nat.le_trans HB2.out.size HK3.out.2.size))
  have HB4 : Hid (Below w.heap.size w W4) := hid (HB1.out.trans (h14.mono HB1.out.size))
  have HK4 : Hid (W4.heap[w.heap.size]? = _) := hid ((h14.block _ (Array.getElem?_eq_some_iff.1 HK1.out).1).trans HK1.out)
  have hy := (five_c hk4).1.2.1
  have hkz : ((k : Int) == 0) = false := beq_eq_false_iff_ne.2 (by have := HK3.out.1; omega)
  have HS : Hid (∀ z, Below W4.heap.size W4 z → (fun z : World => z.cell? ⟨w.heap.size, 0, none⟩ = some (.slice A.sa A.sn A.sc) ∧ z.cell? ⟨w.heap.size, 2, none⟩ = some (.slice A.ma A.M A.mc) ∧ z.cell? ⟨w.heap.size, 3, none⟩ = some (.slice A.oa A.O A.oc)) z) := hid (fun z hz => by
    obtain ⟨⟨e0, e1, e2, e3, e4⟩, _⟩ := five_c ((hz.block _ (Array.getElem?_eq_some_iff.1 HK4.out).1).trans HK4.out)
    exact ⟨e0, e2, e3⟩)
  have C6 := hid (fun (z : World) (hz : Below W4.heap.size W4 z) => roomy6 A.sa A.sn A.sc A.S z HO.out.s44 (RowK.below (K := .i64) H.out.start (HB4.out.trans (hz.mono HB4.out.size))) HO.out.sn)
  have C7m := hid (fun (z : World) (hz : Below W4.heap.size W4 z) => roomy7 A.ma A.M A.mc _ z HO.out.m44 (RowK.below (K := .u64) H.out.must (HB4.out.trans (hz.mono HB4.out.size))) HO.out.mn)
  have C7o := hid (fun (z : World) (hz : Below W4.heap.size W4 z) => roomy7 A.oa A.O A.oc _ z HO.out.o44 (RowK.below (K := .u64) H.out.nots (HB4.out.trans (hz.mono HB4.out.size))) HO.out.on)
  have hB0 : Below W4.heap.size W4 W4.drew := (Sm.refl W4).drew.below _
  clear h14 hb4 hk4 HK1 HB1 C4 HB2
  go_wp2_with fail
  clear hy hkz
  go_cut [5] from 29 to 38 (fun v5 wc => ∃ B5 sv mv ov, v5 = .pointer (some ⟨B5, 0, none⟩) ∧ Hid (Inn W4 A B5 sv (.slice none 0 0) mv ov (.slice none 0 0) 0 0 [] [] wc))
  case first =>
    refine G_region (fun z : World => z.cell? ⟨w.heap.size, 0, none⟩ = some (.slice A.sa A.sn A.sc) ∧ z.cell? ⟨w.heap.size, 2, none⟩ = some (.slice A.ma A.M A.mc) ∧ z.cell? ⟨w.heap.size, 3, none⟩ = some (.slice A.oa A.O A.oc)) (fun i => i == 11) (by kernel_rfl) (HS.out _ hB0) (fun _ => ?_)
    refine G_take (i := 0) (oi := { dst := some 29, op := Op.fieldAddr 26 (Operand.tmp 1) 0, type := 0, pos := _, after := #[], guard := none }) (v := .pointer (some ⟨w.heap.size, 0, none⟩)) rfl (by kernel_rfl) (by kernel_rfl) (by kernel_rfl) (by kernel_rfl) (fun _ _ _ h => h) (by rfl) (fun u hu => ?_) (HS.out _ hB0) ?_
    · (try dsimp only at hu); go_simp
    (try simp only [Act.put, List.setIfInBounds_toArray, List.set_cons_zero, List.set_cons_succ])
    refine G_take (i := 1) (oi := { dst := some 30, op := Op.load 22 (Operand.tmp 29), type := 22, pos := _, after := #[{ on := 0, ground := Ground.data }], guard := none }) (v := .slice A.sa A.sn A.sc) rfl (by kernel_rfl) (by kernel_rfl) (by kernel_rfl) (by kernel_rfl) (fun _ _ _ h => h) (by rfl) (fun u hu => ?_) (HS.out _ hB0) ?_
    · (try dsimp only at hu); go_simp
    (try simp only [Act.put, List.setIfInBounds_toArray, List.set_cons_zero, List.set_cons_succ])
    refine G_take (i := 3) (oi := { dst := some 32, op := Op.fieldAddr 26 (Operand.tmp 1) 2, type := 0, pos := _, after := #[], guard := none }) (v := .pointer (some ⟨w.heap.size, 2, none⟩)) rfl (by kernel_rfl) (by kernel_rfl) (by kernel_rfl) (by kernel_rfl) (fun _ _ _ h => h) (by rfl) (fun u hu => ?_) (HS.out _ hB0) ?_
    · (try dsimp only at hu); go_simp
    (try simp only [Act.put, List.setIfInBounds_toArray, List.set_cons_zero, List.set_cons_succ])
    refine G_take (i := 4) (oi := { dst := some 33, op := Op.load 24 (Operand.tmp 32), type := 24, pos := _, after := #[{ on := 3, ground := Ground.data }], guard := none }) (v := .slice A.ma A.M A.mc) rfl (by kernel_rfl) (by kernel_rfl) (by kernel_rfl) (by kernel_rfl) (fun _ _ _ h => h) (by rfl) (fun u hu => ?_) (HS.out _ hB0) ?_
    · (try dsimp only at hu); go_simp
    (try simp only [Act.put, List.setIfInBounds_toArray, List.set_cons_zero, List.set_cons_succ])
    refine G_take (i := 6) (oi := { dst := some 35, op := Op.fieldAddr 26 (Operand.tmp 1) 3, type := 0, pos := _, after := #[], guard := none }) (v := .pointer (some ⟨w.heap.size, 3, none⟩)) rfl (by kernel_rfl) (by kernel_rfl) (by kernel_rfl) (by kernel_rfl) (fun _ _ _ h => h) (by rfl) (fun u hu => ?_) (HS.out _ hB0) ?_
    · (try dsimp only at hu); go_simp
    (try simp only [Act.put, List.setIfInBounds_toArray, List.set_cons_zero, List.set_cons_succ])
    refine G_take (i := 7) (oi := { dst := some 36, op := Op.load 24 (Operand.tmp 35), type := 24, pos := _, after := #[{ on := 6, ground := Ground.data }], guard := none }) (v := .slice A.oa A.O A.oc) rfl (by kernel_rfl) (by kernel_rfl) (by kernel_rfl) (by kernel_rfl) (fun _ _ _ h => h) (by rfl) (fun u hu => ?_) (HS.out _ hB0) ?_
    · (try dsimp only at hu); go_simp
    (try simp only [Act.put, List.setIfInBounds_toArray, List.set_cons_zero, List.set_cons_succ])
    obtain ⟨y0, hy0⟩ : ∃ q, q = W4.drew := ⟨_, rfl⟩
    rw [← hy0] at hB0 ⊢
    have HBy := hid hB0
    clear hy0 hB0
    refine G_alt (l := [2, 10]) (by kernel_rfl) (by decide) ?_
    intro i hi
    have hi2 : i = 2 ∨ i = 10 := by simpa using hi
    clear hi
    rcases hi2 with rfl | rfl
    · refine ⟨{ dst := some 31, op := Op.call { callee := Callee.value (Operand.func 6), args := #[Operand.tmp 30, Operand.const (Value.int IntKind.i64 77)], argTypes := #[22, 3] }, type := 22, pos := _, after := #[{ on := 1, ground := Ground.data }], guard := none }, rfl, fun K' hK => ?_⟩
      go_simp
      refine (C6.out _ HBy.out).mono ?_
      rintro e y1 ⟨gS, cS, rfl, Hr⟩
      dsimp only
      have hbn := Hr.out.2
      have HSv := hid (Hr.out.1.mono HBy.out.size)
      have HBy := hid (HBy.out.trans (hbn.mono HBy.out.size))
      clear hbn Hr
      refine hK.out _ _ (fun _ => HS.out _ HBy.out) (fun _ => ?_)
      (try simp only [Act.put, List.setIfInBounds_toArray, List.set_cons_zero, List.set_cons_succ])
      refine G_alt (l := [5, 10]) (by kernel_rfl) (by decide) ?_
      intro i hi
      have hi2 : i = 5 ∨ i = 10 := by simpa using hi
      clear hi
      rcases hi2 with rfl | rfl
      · refine ⟨{ dst := some 34, op := Op.call { callee := Callee.value (Operand.func 7), args := #[Operand.tmp 33, Operand.const (Value.int IntKind.u64 77)], argTypes := #[24, 33] }, type := 24, pos := _, after := #[{ on := 4, ground := Ground.data }, { on := 2, ground := Ground.chain }], guard := none }, rfl, fun K' hK => ?_⟩
        go_simp
        refine (C7m.out _ HBy.out).mono ?_
        rintro e y2 ⟨gM, cM, rfl, Hr⟩
        dsimp only
        have hbn := Hr.out.2
        have HMv := hid (Hr.out.1.mono HBy.out.size)
        have HBy := hid (HBy.out.trans (hbn.mono HBy.out.size))
        have HSv := hid (HSv.out.below hbn)
        clear hbn Hr
        refine hK.out _ _ (fun _ => HS.out _ HBy.out) (fun _ => ?_)
        (try simp only [Act.put, List.setIfInBounds_toArray, List.set_cons_zero, List.set_cons_succ])
        refine G_alt (l := [8, 10]) (by kernel_rfl) (by decide) ?_
        intro i hi
        have hi2 : i = 8 ∨ i = 10 := by simpa using hi
        clear hi
        rcases hi2 with rfl | rfl
        · refine ⟨{ dst := some 37, op := Op.call { callee := Callee.value (Operand.func 7), args := #[Operand.tmp 36, Operand.const (Value.int IntKind.u64 77)], argTypes := #[24, 33] }, type := 24, pos := _, after := #[{ on := 7, ground := Ground.data }, { on := 5, ground := Ground.chain }], guard := none }, rfl, fun K' hK => ?_⟩
          go_simp
          refine (C7o.out _ HBy.out).mono ?_
          rintro e y3 ⟨gO, cO, rfl, Hr⟩
          dsimp only
          have hbn := Hr.out.2
          have HOv := hid (Hr.out.1.mono HBy.out.size)
          have HBy := hid (HBy.out.trans (hbn.mono HBy.out.size))
          have HSv := hid (HSv.out.below hbn)
          have HMv := hid (HMv.out.below hbn)
          clear hbn Hr
          refine hK.out _ _ (fun _ => HS.out _ HBy.out) (fun _ => ?_)
          (try simp only [Act.put, List.setIfInBounds_toArray, List.set_cons_zero, List.set_cons_succ])
          refine G_alt (l := [9, 10]) (by kernel_rfl) (by decide) ?_
          intro i hi
          have hi2 : i = 9 ∨ i = 10 := by simpa using hi
          clear hi
          rcases hi2 with rfl | rfl
          · refine ⟨{ dst := some 38, op := Op.build 26 #[(0, Operand.tmp 31), (2, Operand.tmp 34), (3, Operand.tmp 37)], type := 26, pos := _, after := #[{ on := 2, ground := Ground.data }, { on := 5, ground := Ground.data }, { on := 8, ground := Ground.data }], guard := none }, rfl, fun K' hK => ?_⟩
            go_simp
            refine hK.out _ _ (fun _ => HS.out _ HBy.out) (fun _ => ?_)
            (try simp only [Act.put, List.setIfInBounds_toArray, List.set_cons_zero, List.set_cons_succ])
            refine G_step (i := 10) (o := { dst := some 5, op := Op.alloc 26, type := 0, pos := _, after := #[], guard := none }) (by kernel_rfl) rfl (fun K' hK => ?_)
            go_simp
            obtain ⟨y5, hy⟩ : ∃ q, q = y3.alloc (.cells nil5 26) := ⟨_, rfl⟩
            have hbn : Below y3.heap.size y3 y5 := by rw [hy]; exact box_below _ _
            have HAl : Hid (y5.heap[y3.heap.size]? = some (.cells nil5 26)) := hid (by rw [hy]; exact Go.Deep.blk_alloc_new _ _)
            have HB5 : Hid (W4.heap.size ≤ y3.heap.size) := hid HBy.out.size
            rw [← hy]
            have HBy := hid (HBy.out.trans (hbn.mono HBy.out.size))
            have HSv := hid (HSv.out.below hbn)
            have HMv := hid (HMv.out.below hbn)
            have HOv := hid (HOv.out.below hbn)
            obtain ⟨B5, hB5⟩ : ∃ B5, y3.heap.size = B5 := ⟨_, rfl⟩
            rw [hB5] at HAl HB5 ⊢
            clear hbn hy hB5
            refine hK.out _ _ (fun _ => HS.out _ HBy.out) (fun _ => ?_)
            (try simp only [Act.put, List.setIfInBounds_toArray, List.set_cons_zero, List.set_cons_succ])
            refine G_step (i := 11) (o := { dst := none, op := Op.store 26 (Operand.tmp 5) (Operand.tmp 38), type := 0, pos := _, after := #[{ on := 10, ground := Ground.data }, { on := 9, ground := Ground.data }, { on := 8, ground := Ground.chain }, { on := 0, ground := Ground.phase }, { on := 1, ground := Ground.phase }, { on := 2, ground := Ground.phase }, { on := 3, ground := Ground.phase }, { on := 4, ground := Ground.phase }, { on := 5, ground := Ground.phase }, { on := 6, ground := Ground.phase }, { on := 7, ground := Ground.phase }, { on := 8, ground := Ground.phase }, { on := 9, ground := Ground.phase }, { on := 10, ground := Ground.phase }], guard := none }) (by kernel_rfl) rfl (fun K' hK => ?_)
            obtain ⟨⟨c0, c1, c2, c3, c4⟩, yf⟩ := five_c HAl.out
            have f0 := yf 0
            have f1 := yf 1
            have f2 := yf 2
            have f3 := yf 3
            have f4 := yf 4
            clear yf
            obtain ⟨X, hX⟩ : ∃ X, (((((y5.setCell ⟨B5, 0, none⟩ (.slice (some ⟨gS, 0, none⟩) A.sn cS)).setCell ⟨B5, 1, none⟩ (.slice none 0 0)).setCell ⟨B5, 2, none⟩ (.slice (some ⟨gM, 0, none⟩) A.M cM)).setCell ⟨B5, 3, none⟩ (.slice (some ⟨gO, 0, none⟩) A.O cO)).setCell ⟨B5, 4, none⟩ (.slice none 0 0)) = X := ⟨_, rfl⟩
            have HIN := hid (inn_start HBy.out HB5.out HSv.out HMv.out HOv.out HAl.out hX)
            go_simp
            (try rw [hX])
            refine hK.out _ _ (fun h => absurd h (by decide)) (fun _ => ?_)
            (try simp only [Act.put, List.setIfInBounds_toArray, List.set_cons_zero, List.set_cons_succ])
            refine G_done (by kernel_rfl) ?_ _
            (try dsimp only [Exit.then])
            clear c0 c1 c2 c3 c4 f0 f1 f2 f3 f4 hX
            go_wp2_with fail
            go_meet
            exact ⟨_, _, _, _, rfl, HIN⟩
          · refine ⟨{ dst := some 5, op := Op.alloc 26, type := 0, pos := _, after := #[], guard := none }, rfl, fun K' hK => ?_⟩
            go_simp
            obtain ⟨y7, hy⟩ : ∃ q, q = y3.alloc (.cells nil5 26) := ⟨_, rfl⟩
            have hbn : Below y3.heap.size y3 y7 := by rw [hy]; exact box_below _ _
            have HAl : Hid (y7.heap[y3.heap.size]? = some (.cells nil5 26)) := hid (by rw [hy]; exact Go.Deep.blk_alloc_new _ _)
            have HB5 : Hid (W4.heap.size ≤ y3.heap.size) := hid HBy.out.size
            rw [← hy]
            have HBy := hid (HBy.out.trans (hbn.mono HBy.out.size))
            have HSv := hid (HSv.out.below hbn)
            have HMv := hid (HMv.out.below hbn)
            have HOv := hid (HOv.out.below hbn)
            obtain ⟨B5, hB5⟩ : ∃ B5, y3.heap.size = B5 := ⟨_, rfl⟩
            rw [hB5] at HAl HB5 ⊢
            clear hbn hy hB5
            refine hK.out _ _ (fun _ => HS.out _ HBy.out) (fun _ => ?_)
            (try simp only [Act.put, List.setIfInBounds_toArray, List.set_cons_zero, List.set_cons_succ])
            refine G_step (i := 9) (o := { dst := some 38, op := Op.build 26 #[(0, Operand.tmp 31), (2, Operand.tmp 34), (3, Operand.tmp 37)], type := 26, pos := _, after := #[{ on := 2, ground := Ground.data }, { on := 5, ground := Ground.data }, { on := 8, ground := Ground.data }], guard := none }) (by kernel_rfl) rfl (fun K' hK => ?_)
            go_simp
            refine hK.out _ _ (fun _ => HS.out _ HBy.out) (fun _ => ?_)
            (try simp only [Act.put, List.setIfInBounds_toArray, List.set_cons_zero, List.set_cons_succ])
            refine G_step (i := 11) (o := { dst := none, op := Op.store 26 (Operand.tmp 5) (Operand.tmp 38), type := 0, pos := _, after := #[{ on := 10, ground := Ground.data }, { on := 9, ground := Ground.data }, { on := 8, ground := Ground.chain }, { on := 0, ground := Ground.phase }, { on := 1, ground := Ground.phase }, { on := 2, ground := Ground.phase }, { on := 3, ground := Ground.phase }, { on := 4, ground := Ground.phase }, { on := 5, ground := Ground.phase }, { on := 6, ground := Ground.phase }, { on := 7, ground := Ground.phase }, { on := 8, ground := Ground.phase }, { on := 9, ground := Ground.phase }, { on := 10, ground := Ground.phase }], guard := none }) (by kernel_rfl) rfl (fun K' hK => ?_)
            obtain ⟨⟨c0, c1, c2, c3, c4⟩, yf⟩ := five_c HAl.out
            have f0 := yf 0
            have f1 := yf 1
            have f2 := yf 2
            have f3 := yf 3
            have f4 := yf 4
            clear yf
            obtain ⟨X, hX⟩ : ∃ X, (((((y7.setCell ⟨B5, 0, none⟩ (.slice (some ⟨gS, 0, none⟩) A.sn cS)).setCell ⟨B5, 1, none⟩ (.slice none 0 0)).setCell ⟨B5, 2, none⟩ (.slice (some ⟨gM, 0, none⟩) A.M cM)).setCell ⟨B5, 3, none⟩ (.slice (some ⟨gO, 0, none⟩) A.O cO)).setCell ⟨B5, 4, none⟩ (.slice none 0 0)) = X := ⟨_, rfl⟩
            have HIN := hid (inn_start HBy.out HB5.out HSv.out HMv.out HOv.out HAl.out hX)
            go_simp
            (try rw [hX])
            refine hK.out _ _ (fun h => absurd h (by decide)) (fun _ => ?_)
            (try simp only [Act.put, List.setIfInBounds_toArray, List.set_cons_zero, List.set_cons_succ])
            refine G_done (by kernel_rfl) ?_ _
            (try dsimp only [Exit.then])
            clear c0 c1 c2 c3 c4 f0 f1 f2 f3 f4 hX
            go_wp2_with fail
            go_meet
            exact ⟨_, _, _, _, rfl, HIN⟩
        · refine ⟨{ dst := some 5, op := Op.alloc 26, type := 0, pos := _, after := #[], guard := none }, rfl, fun K' hK => ?_⟩
          go_simp
          obtain ⟨y10, hy⟩ : ∃ q, q = y2.alloc (.cells nil5 26) := ⟨_, rfl⟩
          have hbn : Below y2.heap.size y2 y10 := by rw [hy]; exact box_below _ _
          have HAl : Hid (y10.heap[y2.heap.size]? = some (.cells nil5 26)) := hid (by rw [hy]; exact Go.Deep.blk_alloc_new _ _)
          have HB5 : Hid (W4.heap.size ≤ y2.heap.size) := hid HBy.out.size
          rw [← hy]
          have HBy := hid (HBy.out.trans (hbn.mono HBy.out.size))
          have HSv := hid (HSv.out.below hbn)
          have HMv := hid (HMv.out.below hbn)
          obtain ⟨B5, hB5⟩ : ∃ B5, y2.heap.size = B5 := ⟨_, rfl⟩
          rw [hB5] at HAl HB5 ⊢
          clear hbn hy hB5
          refine hK.out _ _ (fun _ => HS.out _ HBy.out) (fun _ => ?_)
          (try simp only [Act.put, List.setIfInBounds_toArray, List.set_cons_zero, List.set_cons_succ])
          refine G_step (i := 8) (o := { dst := some 37, op := Op.call { callee := Callee.value (Operand.func 7), args := #[Operand.tmp 36, Operand.const (Value.int IntKind.u64 77)], argTypes := #[24, 33] }, type := 24, pos := _, after := #[{ on := 7, ground := Ground.data }, { on := 5, ground := Ground.chain }], guard := none }) (by kernel_rfl) rfl (fun K' hK => ?_)
          go_simp
          refine (C7o.out _ HBy.out).mono ?_
          rintro e y11 ⟨gO, cO, rfl, Hr⟩
          dsimp only
          have hbn := Hr.out.2
          have HOv := hid (Hr.out.1.mono HBy.out.size)
          have HBy := hid (HBy.out.trans (hbn.mono HBy.out.size))
          have HSv := hid (HSv.out.below hbn)
          have HMv := hid (HMv.out.below hbn)
          have HAl := hid ((hbn.block _ (Array.getElem?_eq_some_iff.1 HAl.out).1).trans HAl.out)
          clear hbn Hr
          refine hK.out _ _ (fun _ => HS.out _ HBy.out) (fun _ => ?_)
          (try simp only [Act.put, List.setIfInBounds_toArray, List.set_cons_zero, List.set_cons_succ])
          refine G_step (i := 9) (o := { dst := some 38, op := Op.build 26 #[(0, Operand.tmp 31), (2, Operand.tmp 34), (3, Operand.tmp 37)], type := 26, pos := _, after := #[{ on := 2, ground := Ground.data }, { on := 5, ground := Ground.data }, { on := 8, ground := Ground.data }], guard := none }) (by kernel_rfl) rfl (fun K' hK => ?_)
          go_simp
          refine hK.out _ _ (fun _ => HS.out _ HBy.out) (fun _ => ?_)
          (try simp only [Act.put, List.setIfInBounds_toArray, List.set_cons_zero, List.set_cons_succ])
          refine G_step (i := 11) (o := { dst := none, op := Op.store 26 (Operand.tmp 5) (Operand.tmp 38), type := 0, pos := _, after := #[{ on := 10, ground := Ground.data }, { on := 9, ground := Ground.data }, { on := 8, ground := Ground.chain }, { on := 0, ground := Ground.phase }, { on := 1, ground := Ground.phase }, { on := 2, ground := Ground.phase }, { on := 3, ground := Ground.phase }, { on := 4, ground := Ground.phase }, { on := 5, ground := Ground.phase }, { on := 6, ground := Ground.phase }, { on := 7, ground := Ground.phase }, { on := 8, ground := Ground.phase }, { on := 9, ground := Ground.phase }, { on := 10, ground := Ground.phase }], guard := none }) (by kernel_rfl) rfl (fun K' hK => ?_)
          obtain ⟨⟨c0, c1, c2, c3, c4⟩, yf⟩ := five_c HAl.out
          have f0 := yf 0
          have f1 := yf 1
          have f2 := yf 2
          have f3 := yf 3
          have f4 := yf 4
          clear yf
          obtain ⟨X, hX⟩ : ∃ X, (((((y11.setCell ⟨B5, 0, none⟩ (.slice (some ⟨gS, 0, none⟩) A.sn cS)).setCell ⟨B5, 1, none⟩ (.slice none 0 0)).setCell ⟨B5, 2, none⟩ (.slice (some ⟨gM, 0, none⟩) A.M cM)).setCell ⟨B5, 3, none⟩ (.slice (some ⟨gO, 0, none⟩) A.O cO)).setCell ⟨B5, 4, none⟩ (.slice none 0 0)) = X := ⟨_, rfl⟩
          have HIN := hid (inn_start HBy.out HB5.out HSv.out HMv.out HOv.out HAl.out hX)
          go_simp
          (try rw [hX])
          refine hK.out _ _ (fun h => absurd h (by decide)) (fun _ => ?_)
          (try simp only [Act.put, List.setIfInBounds_toArray, List.set_cons_zero, List.set_cons_succ])
          refine G_done (by kernel_rfl) ?_ _
          (try dsimp only [Exit.then])
          clear c0 c1 c2 c3 c4 f0 f1 f2 f3 f4 hX
          go_wp2_with fail
          go_meet
          exact ⟨_, _, _, _, rfl, HIN⟩
      · refine ⟨{ dst := some 5, op := Op.alloc 26, type := 0, pos := _, after := #[], guard := none }, rfl, fun K' hK => ?_⟩
        go_simp
        obtain ⟨y14, hy⟩ : ∃ q, q = y1.alloc (.cells nil5 26) := ⟨_, rfl⟩
        have hbn : Below y1.heap.size y1 y14 := by rw [hy]; exact box_below _ _
        have HAl : Hid (y14.heap[y1.heap.size]? = some (.cells nil5 26)) := hid (by rw [hy]; exact Go.Deep.blk_alloc_new _ _)
        have HB5 : Hid (W4.heap.size ≤ y1.heap.size) := hid HBy.out.size
        rw [← hy]
        have HBy := hid (HBy.out.trans (hbn.mono HBy.out.size))
        have HSv := hid (HSv.out.below hbn)
        obtain ⟨B5, hB5⟩ : ∃ B5, y1.heap.size = B5 := ⟨_, rfl⟩
        rw [hB5] at HAl HB5 ⊢
        clear hbn hy hB5
        refine hK.out _ _ (fun _ => HS.out _ HBy.out) (fun _ => ?_)
        (try simp only [Act.put, List.setIfInBounds_toArray, List.set_cons_zero, List.set_cons_succ])
        refine G_step (i := 5) (o := { dst := some 34, op := Op.call { callee := Callee.value (Operand.func 7), args := #[Operand.tmp 33, Operand.const (Value.int IntKind.u64 77)], argTypes := #[24, 33] }, type := 24, pos := _, after := #[{ on := 4, ground := Ground.data }, { on := 2, ground := Ground.chain }], guard := none }) (by kernel_rfl) rfl (fun K' hK => ?_)
        go_simp
        refine (C7m.out _ HBy.out).mono ?_
        rintro e y15 ⟨gM, cM, rfl, Hr⟩
        dsimp only
        have hbn := Hr.out.2
        have HMv := hid (Hr.out.1.mono HBy.out.size)
        have HBy := hid (HBy.out.trans (hbn.mono HBy.out.size))
        have HSv := hid (HSv.out.below hbn)
        have HAl := hid ((hbn.block _ (Array.getElem?_eq_some_iff.1 HAl.out).1).trans HAl.out)
        clear hbn Hr
        refine hK.out _ _ (fun _ => HS.out _ HBy.out) (fun _ => ?_)
        (try simp only [Act.put, List.setIfInBounds_toArray, List.set_cons_zero, List.set_cons_succ])
        refine G_step (i := 8) (o := { dst := some 37, op := Op.call { callee := Callee.value (Operand.func 7), args := #[Operand.tmp 36, Operand.const (Value.int IntKind.u64 77)], argTypes := #[24, 33] }, type := 24, pos := _, after := #[{ on := 7, ground := Ground.data }, { on := 5, ground := Ground.chain }], guard := none }) (by kernel_rfl) rfl (fun K' hK => ?_)
        go_simp
        refine (C7o.out _ HBy.out).mono ?_
        rintro e y16 ⟨gO, cO, rfl, Hr⟩
        dsimp only
        have hbn := Hr.out.2
        have HOv := hid (Hr.out.1.mono HBy.out.size)
        have HBy := hid (HBy.out.trans (hbn.mono HBy.out.size))
        have HSv := hid (HSv.out.below hbn)
        have HAl := hid ((hbn.block _ (Array.getElem?_eq_some_iff.1 HAl.out).1).trans HAl.out)
        have HMv := hid (HMv.out.below hbn)
        clear hbn Hr
        refine hK.out _ _ (fun _ => HS.out _ HBy.out) (fun _ => ?_)
        (try simp only [Act.put, List.setIfInBounds_toArray, List.set_cons_zero, List.set_cons_succ])
        refine G_step (i := 9) (o := { dst := some 38, op := Op.build 26 #[(0, Operand.tmp 31), (2, Operand.tmp 34), (3, Operand.tmp 37)], type := 26, pos := _, after := #[{ on := 2, ground := Ground.data }, { on := 5, ground := Ground.data }, { on := 8, ground := Ground.data }], guard := none }) (by kernel_rfl) rfl (fun K' hK => ?_)
        go_simp
        refine hK.out _ _ (fun _ => HS.out _ HBy.out) (fun _ => ?_)
        (try simp only [Act.put, List.setIfInBounds_toArray, List.set_cons_zero, List.set_cons_succ])
        refine G_step (i := 11) (o := { dst := none, op := Op.store 26 (Operand.tmp 5) (Operand.tmp 38), type := 0, pos := _, after := #[{ on := 10, ground := Ground.data }, { on := 9, ground := Ground.data }, { on := 8, ground := Ground.chain }, { on := 0, ground := Ground.phase }, { on := 1, ground := Ground.phase }, { on := 2, ground := Ground.phase }, { on := 3, ground := Ground.phase }, { on := 4, ground := Ground.phase }, { on := 5, ground := Ground.phase }, { on := 6, ground := Ground.phase }, { on := 7, ground := Ground.phase }, { on := 8, ground := Ground.phase }, { on := 9, ground := Ground.phase }, { on := 10, ground := Ground.phase }], guard := none }) (by kernel_rfl) rfl (fun K' hK => ?_)
        obtain ⟨⟨c0, c1, c2, c3, c4⟩, yf⟩ := five_c HAl.out
        have f0 := yf 0
        have f1 := yf 1
        have f2 := yf 2
        have f3 := yf 3
        have f4 := yf 4
        clear yf
        obtain ⟨X, hX⟩ : ∃ X, (((((y16.setCell ⟨B5, 0, none⟩ (.slice (some ⟨gS, 0, none⟩) A.sn cS)).setCell ⟨B5, 1, none⟩ (.slice none 0 0)).setCell ⟨B5, 2, none⟩ (.slice (some ⟨gM, 0, none⟩) A.M cM)).setCell ⟨B5, 3, none⟩ (.slice (some ⟨gO, 0, none⟩) A.O cO)).setCell ⟨B5, 4, none⟩ (.slice none 0 0)) = X := ⟨_, rfl⟩
        have HIN := hid (inn_start HBy.out HB5.out HSv.out HMv.out HOv.out HAl.out hX)
        go_simp
        (try rw [hX])
        refine hK.out _ _ (fun h => absurd h (by decide)) (fun _ => ?_)
        (try simp only [Act.put, List.setIfInBounds_toArray, List.set_cons_zero, List.set_cons_succ])
        refine G_done (by kernel_rfl) ?_ _
        (try dsimp only [Exit.then])
        clear c0 c1 c2 c3 c4 f0 f1 f2 f3 f4 hX
        go_wp2_with fail
        go_meet
        exact ⟨_, _, _, _, rfl, HIN⟩
    · refine ⟨{ dst := some 5, op := Op.alloc 26, type := 0, pos := _, after := #[], guard := none }, rfl, fun K' hK => ?_⟩
      go_simp
      obtain ⟨y19, hy⟩ : ∃ q, q = y0.alloc (.cells nil5 26) := ⟨_, rfl⟩
      have hbn : Below y0.heap.size y0 y19 := by rw [hy]; exact box_below _ _
      have HAl : Hid (y19.heap[y0.heap.size]? = some (.cells nil5 26)) := hid (by rw [hy]; exact Go.Deep.blk_alloc_new _ _)
      have HB5 : Hid (W4.heap.size ≤ y0.heap.size) := hid HBy.out.size
      rw [← hy]
      have HBy := hid (HBy.out.trans (hbn.mono HBy.out.size))
      obtain ⟨B5, hB5⟩ : ∃ B5, y0.heap.size = B5 := ⟨_, rfl⟩
      rw [hB5] at HAl HB5 ⊢
      clear hbn hy hB5
      refine hK.out _ _ (fun _ => HS.out _ HBy.out) (fun _ => ?_)
      (try simp only [Act.put, List.setIfInBounds_toArray, List.set_cons_zero, List.set_cons_succ])
      refine G_step (i := 2) (o := { dst := some 31, op := Op.call { callee := Callee.value (Operand.func 6), args := #[Operand.tmp 30, Operand.const (Value.int IntKind.i64 77)], argTypes := #[22, 3] }, type := 22, pos := _, after := #[{ on := 1, ground := Ground.data }], guard := none }) (by kernel_rfl) rfl (fun K' hK => ?_)
      go_simp
      refine (C6.out _ HBy.out).mono ?_
      rintro e y20 ⟨gS, cS, rfl, Hr⟩
      dsimp only
      have hbn := Hr.out.2
      have HSv := hid (Hr.out.1.mono HBy.out.size)
      have HBy := hid (HBy.out.trans (hbn.mono HBy.out.size))
      have HAl := hid ((hbn.block _ (Array.getElem?_eq_some_iff.1 HAl.out).1).trans HAl.out)
      clear hbn Hr
      refine hK.out _ _ (fun _ => HS.out _ HBy.out) (fun _ => ?_)
      (try simp only [Act.put, List.setIfInBounds_toArray, List.set_cons_zero, List.set_cons_succ])
      refine G_step (i := 5) (o := { dst := some 34, op := Op.call { callee := Callee.value (Operand.func 7), args := #[Operand.tmp 33, Operand.const (Value.int IntKind.u64 77)], argTypes := #[24, 33] }, type := 24, pos := _, after := #[{ on := 4, ground := Ground.data }, { on := 2, ground := Ground.chain }], guard := none }) (by kernel_rfl) rfl (fun K' hK => ?_)
      go_simp
      refine (C7m.out _ HBy.out).mono ?_
      rintro e y21 ⟨gM, cM, rfl, Hr⟩
      dsimp only
      have hbn := Hr.out.2
      have HMv := hid (Hr.out.1.mono HBy.out.size)
      have HBy := hid (HBy.out.trans (hbn.mono HBy.out.size))
      have HAl := hid ((hbn.block _ (Array.getElem?_eq_some_iff.1 HAl.out).1).trans HAl.out)
      have HSv := hid (HSv.out.below hbn)
      clear hbn Hr
      refine hK.out _ _ (fun _ => HS.out _ HBy.out) (fun _ => ?_)
      (try simp only [Act.put, List.setIfInBounds_toArray, List.set_cons_zero, List.set_cons_succ])
      refine G_step (i := 8) (o := { dst := some 37, op := Op.call { callee := Callee.value (Operand.func 7), args := #[Operand.tmp 36, Operand.const (Value.int IntKind.u64 77)], argTypes := #[24, 33] }, type := 24, pos := _, after := #[{ on := 7, ground := Ground.data }, { on := 5, ground := Ground.chain }], guard := none }) (by kernel_rfl) rfl (fun K' hK => ?_)
      go_simp
      refine (C7o.out _ HBy.out).mono ?_
      rintro e y22 ⟨gO, cO, rfl, Hr⟩
      dsimp only
      have hbn := Hr.out.2
      have HOv := hid (Hr.out.1.mono HBy.out.size)
      have HBy := hid (HBy.out.trans (hbn.mono HBy.out.size))
      have HAl := hid ((hbn.block _ (Array.getElem?_eq_some_iff.1 HAl.out).1).trans HAl.out)
      have HSv := hid (HSv.out.below hbn)
      have HMv := hid (HMv.out.below hbn)
      clear hbn Hr
      refine hK.out _ _ (fun _ => HS.out _ HBy.out) (fun _ => ?_)
      (try simp only [Act.put, List.setIfInBounds_toArray, List.set_cons_zero, List.set_cons_succ])
      refine G_step (i := 9) (o := { dst := some 38, op := Op.build 26 #[(0, Operand.tmp 31), (2, Operand.tmp 34), (3, Operand.tmp 37)], type := 26, pos := _, after := #[{ on := 2, ground := Ground.data }, { on := 5, ground := Ground.data }, { on := 8, ground := Ground.data }], guard := none }) (by kernel_rfl) rfl (fun K' hK => ?_)
      go_simp
      refine hK.out _ _ (fun _ => HS.out _ HBy.out) (fun _ => ?_)
      (try simp only [Act.put, List.setIfInBounds_toArray, List.set_cons_zero, List.set_cons_succ])
      refine G_step (i := 11) (o := { dst := none, op := Op.store 26 (Operand.tmp 5) (Operand.tmp 38), type := 0, pos := _, after := #[{ on := 10, ground := Ground.data }, { on := 9, ground := Ground.data }, { on := 8, ground := Ground.chain }, { on := 0, ground := Ground.phase }, { on := 1, ground := Ground.phase }, { on := 2, ground := Ground.phase }, { on := 3, ground := Ground.phase }, { on := 4, ground := Ground.phase }, { on := 5, ground := Ground.phase }, { on := 6, ground := Ground.phase }, { on := 7, ground := Ground.phase }, { on := 8, ground := Ground.phase }, { on := 9, ground := Ground.phase }, { on := 10, ground := Ground.phase }], guard := none }) (by kernel_rfl) rfl (fun K' hK => ?_)
      obtain ⟨⟨c0, c1, c2, c3, c4⟩, yf⟩ := five_c HAl.out
      have f0 := yf 0
      have f1 := yf 1
      have f2 := yf 2
      have f3 := yf 3
      have f4 := yf 4
      clear yf
      obtain ⟨X, hX⟩ : ∃ X, (((((y22.setCell ⟨B5, 0, none⟩ (.slice (some ⟨gS, 0, none⟩) A.sn cS)).setCell ⟨B5, 1, none⟩ (.slice none 0 0)).setCell ⟨B5, 2, none⟩ (.slice (some ⟨gM, 0, none⟩) A.M cM)).setCell ⟨B5, 3, none⟩ (.slice (some ⟨gO, 0, none⟩) A.O cO)).setCell ⟨B5, 4, none⟩ (.slice none 0 0)) = X := ⟨_, rfl⟩
      have HIN := hid (inn_start HBy.out HB5.out HSv.out HMv.out HOv.out HAl.out hX)
      go_simp
      (try rw [hX])
      refine hK.out _ _ (fun h => absurd h (by decide)) (fun _ => ?_)
      (try simp only [Act.put, List.setIfInBounds_toArray, List.set_cons_zero, List.set_cons_succ])
      refine G_done (by kernel_rfl) ?_ _
      (try dsimp only [Exit.then])
      clear c0 c1 c2 c3 c4 f0 f1 f2 f3 f4 hX
      go_wp2_with fail
      go_meet
      exact ⟨_, _, _, _, rfl, HIN⟩
  case rest =>
    obtain ⟨B5, sv, mv, ov, rfl, HI⟩ := hcut
    clear C6 C7m C7o hB0
    obtain ⟨⟨q0, q1, q2, q3, q4⟩, _⟩ := five_c ((HI.out.low.block _ (Array.getElem?_eq_some_iff.1 HK4.out).1).trans HK4.out)
    go_wp2
    clear q0 q1 q2 q3 q4
    go_loopw [42] (fun i wr => ∃ (j : Nat) (nv : Value) (Vn : List Value), j ≤ A.G ∧ i = .int .i64 j ∧ Hid (Inn W4 A B5 sv nv mv ov (.slice none 0 0) j 0 Vn [] wr)) (fun i _ => A.G - (intOf i).toNat)
    case atStart => exact ⟨0, _, [], Nat.zero_le _, rfl, HI⟩
    case round =>
      obtain ⟨j, nv, Vn, hj, rfl, HJ⟩ := hrel
      clear HI
      by_cases hlt : j < A.G
      · have hlw : Below w.heap.size w wr := HB4.out.trans (HJ.out.low.mono HB4.out.size)
        obtain ⟨gb, go0, ha, hc⟩ := HO.out.next.below hlw
        obtain ⟨ra, rc, hck, hrow, hrn⟩ := hc j hlt
        obtain rfl := HNA.out.symm.trans (ha (by omega))
        obtain ⟨va, vc, hv⟩ := owns_sl HJ.out.nt
        subst hv
        have C6 := hid (fun (z : World) (hz : Below wr.heap.size wr z) => roomy6 ra (A.L j) rc (A.Z j) z (HO.out.l44 j hlt) (RowK.below (K := .i64) hrow hz) hrn)
        have hcv : wr.cell? ⟨B5, 1, none⟩ = some (.slice va j vc) := cell_of_cells HJ.out.aut rfl
        have h24 := HO.out.g24
        have hws := HJ.out.low.size
        have hVl : Vn.length = j := by have := HJ.out.nt.1; omega
        have hS0 : (fun z : World => z.cell? ⟨B5, 1, none⟩ = some (.slice va j vc)) wr.drew := hcv
        obtain ⟨i2, hi, hz0, hz1, hz2⟩ := info_parts Try.info22
        have HQ : Hid (Try.prog.info? 22 = some i2 ∧ i2.zero = some (.slice none 0 0) ∧ i2.size = 1 ∧ i2.bytes = 24) := ⟨hi, hz0, hz1, hz2⟩
        have HVL := hid hVl
        clear hi hz0 hz1 hz2 hc hrow hrn ha hlw hVl
        go_wp2_with fail
        refine G_region (fun z : World => z.cell? ⟨B5, 1, none⟩ = some (.slice va j vc)) (fun i => i == 7) (by kernel_rfl) hS0 (fun _ => ?_)
        refine G_take (i := 0) (oi := { dst := some 46, op := Op.fieldAddr 26 (Operand.tmp 5) 1, type := 0, pos := _, after := #[], guard := none }) (v := .pointer (some ⟨B5, 1, none⟩)) rfl (by kernel_rfl) (by kernel_rfl) (by kernel_rfl) (by kernel_rfl) (fun _ _ _ h => h) (by rfl) (fun u hu => ?_) hS0 ?_
        · (try dsimp only at hu); go_simp
        (try simp only [Act.put, List.setIfInBounds_toArray, List.set_cons_zero, List.set_cons_succ])
        refine G_take (i := 1) (oi := { dst := some 47, op := Op.load 23 (Operand.tmp 46), type := 23, pos := _, after := #[{ on := 0, ground := Ground.data }], guard := none }) (v := .slice va j vc) rfl (by kernel_rfl) (by kernel_rfl) (by kernel_rfl) (by kernel_rfl) (fun _ _ _ h => h) (by rfl) (fun u hu => ?_) hS0 ?_
        · (try dsimp only at hu); go_simp
        (try simp only [Act.put, List.setIfInBounds_toArray, List.set_cons_zero, List.set_cons_succ])
        refine G_take (i := 2) (oi := { dst := some 48, op := Op.move (Operand.tmp 7), type := 22, pos := _, after := #[], guard := none }) (v := .slice ra (A.L j) rc) rfl (by kernel_rfl) (by kernel_rfl) (by kernel_rfl) (by kernel_rfl) (fun _ _ _ h => h) (by rfl) (fun u hu => ?_) hS0 ?_
        · (try dsimp only at hu); go_simp
        (try simp only [Act.put, List.setIfInBounds_toArray, List.set_cons_zero, List.set_cons_succ])
        refine G_step (i := 3) (o := { dst := some 49, op := Op.call { callee := Callee.value (Operand.func 6), args := #[Operand.tmp 48, Operand.const (Value.int IntKind.i64 77)], argTypes := #[22, 3] }, type := 22, pos := _, after := #[{ on := 2, ground := Ground.data }], guard := none }) (by kernel_rfl) rfl (fun K' hK => ?_)
        go_simp
        refine (C6.out _ ((Sm.refl wr).drew.below _)).mono ?_
        rintro e z1 ⟨gl, cl, rfl, Hr⟩
        dsimp only
        have hbz : Below wr.heap.size wr z1 := ((Sm.refl wr).drew.below _).trans Hr.out.2
        have HJ1 := hid (HJ.out.below hbz)
        have hcz : z1.cell? ⟨B5, 1, none⟩ = some (.slice va j vc) := cell_of_cells HJ1.out.aut rfl
        have HRl : Hid (Rm 3 .i64 z1 W4.heap.size (.slice (some ⟨gl, 0, none⟩) (A.L j) cl) (A.L j) (A.Z j)) := hid (Hr.out.1.mono hws)
        have hwz : W4.heap.size ≤ z1.heap.size := HJ1.out.low.size
        have hS1 : (fun z : World => z.cell? ⟨B5, 1, none⟩ = some (.slice va j vc)) (z1.alloc (.cells #[.slice (some ⟨gl, 0, none⟩) (A.L j) cl] 22)) := cell_alloc1 _ hcz
        have hUb : (z1.alloc (.cells #[.slice (some ⟨gl, 0, none⟩) (A.L j) cl] 22)).heap[z1.heap.size]? = some (.cells #[.slice (some ⟨gl, 0, none⟩) (A.L j) cl] 22) := Go.Deep.blk_alloc_new _ _
        have HOW : Hid ((z1.alloc (.cells #[.slice (some ⟨gl, 0, none⟩) (A.L j) cl] 22)).ownsRow W4.heap.size 22 1 (.slice va j vc) j Vn) := hid (HJ1.out.nt.alloc _)
        clear hbz Hr hcv hS0 hck
        refine hK.out _ _ (fun _ => hcz) (fun _ => ?_)
        (try simp only [Act.put, List.setIfInBounds_toArray, List.set_cons_zero, List.set_cons_succ])
        refine G_step (i := 4) (o := { dst := some 50, op := Op.buildSlice 23 1 #[(0, Operand.tmp 49)], type := 23, pos := _, after := #[{ on := 3, ground := Ground.data }], guard := none }) (by kernel_rfl) rfl (fun K' hK => ?_)
        go_simp
        refine hK.out _ _ (fun _ => hS1) (fun _ => ?_)
        (try simp only [Act.put, List.setIfInBounds_toArray, List.set_cons_zero, List.set_cons_succ])
        refine G_step (i := 5) (o := { dst := some 51, op := Op.call { callee := Callee.builtin Builtin.append, args := #[Operand.tmp 47, Operand.tmp 50], argTypes := #[23, 23] }, type := 23, pos := _, after := #[{ on := 1, ground := Ground.data }, { on := 4, ground := Ground.data }, { on := 3, ground := Ground.chain }], guard := none }) (by kernel_rfl) rfl (fun K' hK => ?_)
        refine step_append_lies _ (by rfl) _ _ _ (by rfl) W4.heap.size 22 i2 _ 1 24 Try.underlying23 HQ.out.1 HQ.out.2.1 HQ.out.2.2.1 HQ.out.2.2.2 rfl (by omega) (.slice va j vc) j Vn (by rfl) HOW.out ⟨z1.heap.size, 0, none⟩ 1 1 [.slice (some ⟨gl, 0, none⟩) (A.L j) cl] (by rfl) (by rfl) (World.news_of_block (w := z1.alloc (.cells #[.slice (some ⟨gl, 0, none⟩) (A.L j) cl] 22)) (cs := #[.slice (some ⟨gl, 0, none⟩) (A.L j) cl]) (t := 22) (fr := (0, 0)) hUb) (by simp [Value.oneCell']) (by omega) (by unfold maxLen; omega) (by omega) (by simp; omega) (z1.heap.size + 1) (by simp) ?_
        intro g4 cap4 w4 hown4 hgrow4 hat4 hlt4
        obtain ⟨hoth, hfz, HI4⟩ := HJ1.out.addN (nv' := .slice (some ⟨g4, 0, none⟩) (j + 1) cap4) HRl.out hown4 hgrow4 (hat4.imp (fun e => by rw [e]; simp [Value.ownBlock]) (fun e => by rw [e]; simp [Value.ownBlock]))
        have s4 : (fun z : World => z.cell? ⟨B5, 1, none⟩ = some (.slice va j vc)) w4 := otn_cell hoth (Or.inr ⟨_, _, _, HJ1.out.aut, by decide⟩) hcz
        have HI5 := hid HI4
        have hs4 := s4
        clear hown4 hgrow4 hat4 hlt4 hoth HI4 hUb HOW hS1
        refine hK.out _ _ (fun _ => s4) (fun _ => ?_)
        (try simp only [Act.put, List.setIfInBounds_toArray, List.set_cons_zero, List.set_cons_succ])
        refine G_step (i := 6) (o := { dst := some 52, op := Op.fieldAddr 26 (Operand.tmp 5) 1, type := 0, pos := _, after := #[{ on := 0, ground := Ground.phase }, { on := 1, ground := Ground.phase }, { on := 2, ground := Ground.phase }, { on := 3, ground := Ground.phase }, { on := 4, ground := Ground.phase }, { on := 5, ground := Ground.phase }], guard := none }) (by kernel_rfl) rfl (fun K' hK => ?_)
        go_simp
        refine hK.out _ _ (fun _ => s4) (fun _ => ?_)
        (try simp only [Act.put, List.setIfInBounds_toArray, List.set_cons_zero, List.set_cons_succ])
        refine G_step (i := 7) (o := { dst := none, op := Op.store 23 (Operand.tmp 52) (Operand.tmp 51), type := 0, pos := _, after := #[{ on := 6, ground := Ground.data }, { on := 5, ground := Ground.data }, { on := 5, ground := Ground.chain }, { on := 0, ground := Ground.phase }, { on := 1, ground := Ground.phase }, { on := 2, ground := Ground.phase }, { on := 3, ground := Ground.phase }, { on := 4, ground := Ground.phase }, { on := 5, ground := Ground.phase }], guard := none }) (by kernel_rfl) rfl (fun K' hK => ?_)
        go_simp
        refine hK.out _ _ (fun h => absurd h (by decide)) (fun _ => ?_)
        (try simp only [Act.put, List.setIfInBounds_toArray, List.set_cons_zero, List.set_cons_succ])
        refine G_done (by kernel_rfl) ?_ _
        (try dsimp only [Exit.then])
        clear s4 hs4 hfz hcz HJ1 HRl HJ
        generalize w4.setCell ⟨B5, 1, none⟩ (.slice (some ⟨g4, 0, none⟩) (j + 1) cap4) = W5 at *
        go_wp2
        go_roundw
        case rel => exact ⟨j + 1, _, _, by omega, by go_num, HI5⟩
        case measure => simp [intOf]; omega
      · obtain ⟨nv0, hnv0⟩ : ∃ q, q = nv := ⟨_, rfl⟩
        have HI : Hid (Inn W4 A B5 sv nv mv ov (.slice none 0 0) A.G 0 Vn [] wr) := hid (by
          obtain rfl : j = A.G := by omega
          exact HJ.out)
        clear HJ hnv0
        obtain ⟨⟨q0, q1, q2, q3, q4⟩, _⟩ := five_c ((HI.out.low.block _ (Array.getElem?_eq_some_iff.1 HK4.out).1).trans HK4.out)
        go_wp2
        clear q0 q1 q2 q3 q4
        go_loopw [57] (fun i wr => ∃ (j : Nat) (fv : Value) (Vf : List Value), j ≤ A.K ∧ i = .int .i64 j ∧ Hid (Inn W4 A B5 sv nv mv ov fv A.G j Vn Vf wr)) (fun i _ => A.K - (intOf i).toNat)
        case atStart => exact ⟨0, _, [], Nat.zero_le _, rfl, HI⟩
        case round =>
          obtain ⟨j, fv, Vf, hj, rfl, HJ⟩ := hrel
          clear HI
          by_cases hlt : j < A.K
          · have hlw : Below w.heap.size w wr := HB4.out.trans (HJ.out.low.mono HB4.out.size)
            obtain ⟨gb, go0, ha, hc⟩ := HO.out.fair.below hlw
            obtain ⟨ra, rc, hck, hrow, hrn⟩ := hc j hlt
            obtain rfl := HFA.out.symm.trans (ha (by omega))
            obtain ⟨va, vc, hv⟩ := owns_sl HJ.out.ft
            subst hv
            have C6 := hid (fun (z : World) (hz : Below wr.heap.size wr z) => roomy6 ra (A.FL j) rc (A.FZ j) z (HO.out.f44 j hlt) (RowK.below (K := .i64) hrow hz) hrn)
            have hcv : wr.cell? ⟨B5, 4, none⟩ = some (.slice va j vc) := cell_of_cells HJ.out.aut rfl
            have h24 := HO.out.k24
            have hws := HJ.out.low.size
            have hVl : Vf.length = j := by have := HJ.out.ft.1; omega
            have hS0 : (fun z : World => z.cell? ⟨B5, 4, none⟩ = some (.slice va j vc)) wr.drew := hcv
            obtain ⟨i2, hi, hz0, hz1, hz2⟩ := info_parts Try.info22
            have HQ : Hid (Try.prog.info? 22 = some i2 ∧ i2.zero = some (.slice none 0 0) ∧ i2.size = 1 ∧ i2.bytes = 24) := ⟨hi, hz0, hz1, hz2⟩
            have HVL := hid hVl
            clear hi hz0 hz1 hz2 hc hrow hrn ha hlw hVl
            go_wp2_with fail
            refine G_region (fun z : World => z.cell? ⟨B5, 4, none⟩ = some (.slice va j vc)) (fun i => i == 7) (by kernel_rfl) hS0 (fun _ => ?_)
            refine G_take (i := 0) (oi := { dst := some 61, op := Op.fieldAddr 26 (Operand.tmp 5) 4, type := 0, pos := _, after := #[], guard := none }) (v := .pointer (some ⟨B5, 4, none⟩)) rfl (by kernel_rfl) (by kernel_rfl) (by kernel_rfl) (by kernel_rfl) (fun _ _ _ h => h) (by rfl) (fun u hu => ?_) hS0 ?_
            · (try dsimp only at hu); go_simp
            (try simp only [Act.put, List.setIfInBounds_toArray, List.set_cons_zero, List.set_cons_succ])
            refine G_take (i := 1) (oi := { dst := some 62, op := Op.load 23 (Operand.tmp 61), type := 23, pos := _, after := #[{ on := 0, ground := Ground.data }], guard := none }) (v := .slice va j vc) rfl (by kernel_rfl) (by kernel_rfl) (by kernel_rfl) (by kernel_rfl) (fun _ _ _ h => h) (by rfl) (fun u hu => ?_) hS0 ?_
            · (try dsimp only at hu); go_simp
            (try simp only [Act.put, List.setIfInBounds_toArray, List.set_cons_zero, List.set_cons_succ])
            refine G_take (i := 2) (oi := { dst := some 63, op := Op.move (Operand.tmp 9), type := 22, pos := _, after := #[], guard := none }) (v := .slice ra (A.FL j) rc) rfl (by kernel_rfl) (by kernel_rfl) (by kernel_rfl) (by kernel_rfl) (fun _ _ _ h => h) (by rfl) (fun u hu => ?_) hS0 ?_
            · (try dsimp only at hu); go_simp
            (try simp only [Act.put, List.setIfInBounds_toArray, List.set_cons_zero, List.set_cons_succ])
            refine G_step (i := 3) (o := { dst := some 64, op := Op.call { callee := Callee.value (Operand.func 6), args := #[Operand.tmp 63, Operand.const (Value.int IntKind.i64 77)], argTypes := #[22, 3] }, type := 22, pos := _, after := #[{ on := 2, ground := Ground.data }], guard := none }) (by kernel_rfl) rfl (fun K' hK => ?_)
            go_simp
            refine (C6.out _ ((Sm.refl wr).drew.below _)).mono ?_
            rintro e z1 ⟨gl, cl, rfl, Hr⟩
            dsimp only
            have hbz : Below wr.heap.size wr z1 := ((Sm.refl wr).drew.below _).trans Hr.out.2
            have HJ1 := hid (HJ.out.below hbz)
            have hcz : z1.cell? ⟨B5, 4, none⟩ = some (.slice va j vc) := cell_of_cells HJ1.out.aut rfl
            have HRl : Hid (Rm 3 .i64 z1 W4.heap.size (.slice (some ⟨gl, 0, none⟩) (A.FL j) cl) (A.FL j) (A.FZ j)) := hid (Hr.out.1.mono hws)
            have hwz : W4.heap.size ≤ z1.heap.size := HJ1.out.low.size
            have hS1 : (fun z : World => z.cell? ⟨B5, 4, none⟩ = some (.slice va j vc)) (z1.alloc (.cells #[.slice (some ⟨gl, 0, none⟩) (A.FL j) cl] 22)) := cell_alloc1 _ hcz
            have hUb : (z1.alloc (.cells #[.slice (some ⟨gl, 0, none⟩) (A.FL j) cl] 22)).heap[z1.heap.size]? = some (.cells #[.slice (some ⟨gl, 0, none⟩) (A.FL j) cl] 22) := Go.Deep.blk_alloc_new _ _
            have HOW : Hid ((z1.alloc (.cells #[.slice (some ⟨gl, 0, none⟩) (A.FL j) cl] 22)).ownsRow W4.heap.size 22 1 (.slice va j vc) j Vf) := hid (HJ1.out.ft.alloc _)
            clear hbz Hr hcv hS0 hck
            refine hK.out _ _ (fun _ => hcz) (fun _ => ?_)
            (try simp only [Act.put, List.setIfInBounds_toArray, List.set_cons_zero, List.set_cons_succ])
            refine G_step (i := 4) (o := { dst := some 65, op := Op.buildSlice 23 1 #[(0, Operand.tmp 64)], type := 23, pos := _, after := #[{ on := 3, ground := Ground.data }], guard := none }) (by kernel_rfl) rfl (fun K' hK => ?_)
            go_simp
            refine hK.out _ _ (fun _ => hS1) (fun _ => ?_)
            (try simp only [Act.put, List.setIfInBounds_toArray, List.set_cons_zero, List.set_cons_succ])
            refine G_step (i := 5) (o := { dst := some 66, op := Op.call { callee := Callee.builtin Builtin.append, args := #[Operand.tmp 62, Operand.tmp 65], argTypes := #[23, 23] }, type := 23, pos := _, after := #[{ on := 1, ground := Ground.data }, { on := 4, ground := Ground.data }, { on := 3, ground := Ground.chain }], guard := none }) (by kernel_rfl) rfl (fun K' hK => ?_)
            refine step_append_lies _ (by rfl) _ _ _ (by rfl) W4.heap.size 22 i2 _ 1 24 Try.underlying23 HQ.out.1 HQ.out.2.1 HQ.out.2.2.1 HQ.out.2.2.2 rfl (by omega) (.slice va j vc) j Vf (by rfl) HOW.out ⟨z1.heap.size, 0, none⟩ 1 1 [.slice (some ⟨gl, 0, none⟩) (A.FL j) cl] (by rfl) (by rfl) (World.news_of_block (w := z1.alloc (.cells #[.slice (some ⟨gl, 0, none⟩) (A.FL j) cl] 22)) (cs := #[.slice (some ⟨gl, 0, none⟩) (A.FL j) cl]) (t := 22) (fr := (0, 0)) hUb) (by simp [Value.oneCell']) (by omega) (by unfold maxLen; omega) (by omega) (by simp; omega) (z1.heap.size + 1) (by simp) ?_
            intro g4 cap4 w4 hown4 hgrow4 hat4 hlt4
            obtain ⟨hoth, hfz, HI4⟩ := HJ1.out.addF (fv' := .slice (some ⟨g4, 0, none⟩) (j + 1) cap4) HRl.out hown4 hgrow4 (hat4.imp (fun e => by rw [e]; simp [Value.ownBlock]) (fun e => by rw [e]; simp [Value.ownBlock]))
            have s4 : (fun z : World => z.cell? ⟨B5, 4, none⟩ = some (.slice va j vc)) w4 := otn_cell hoth (Or.inr ⟨_, _, _, HJ1.out.aut, by decide⟩) hcz
            have HI5 := hid HI4
            have hs4 := s4
            clear hown4 hgrow4 hat4 hlt4 hoth HI4 hUb HOW hS1
            refine hK.out _ _ (fun _ => s4) (fun _ => ?_)
            (try simp only [Act.put, List.setIfInBounds_toArray, List.set_cons_zero, List.set_cons_succ])
            refine G_step (i := 6) (o := { dst := some 67, op := Op.fieldAddr 26 (Operand.tmp 5) 4, type := 0, pos := _, after := #[{ on := 0, ground := Ground.phase }, { on := 1, ground := Ground.phase }, { on := 2, ground := Ground.phase }, { on := 3, ground := Ground.phase }, { on := 4, ground := Ground.phase }, { on := 5, ground := Ground.phase }], guard := none }) (by kernel_rfl) rfl (fun K' hK => ?_)
            go_simp
            refine hK.out _ _ (fun _ => s4) (fun _ => ?_)
            (try simp only [Act.put, List.setIfInBounds_toArray, List.set_cons_zero, List.set_cons_succ])
            refine G_step (i := 7) (o := { dst := none, op := Op.store 23 (Operand.tmp 67) (Operand.tmp 66), type := 0, pos := _, after := #[{ on := 6, ground := Ground.data }, { on := 5, ground := Ground.data }, { on := 5, ground := Ground.chain }, { on := 0, ground := Ground.phase }, { on := 1, ground := Ground.phase }, { on := 2, ground := Ground.phase }, { on := 3, ground := Ground.phase }, { on := 4, ground := Ground.phase }, { on := 5, ground := Ground.phase }], guard := none }) (by kernel_rfl) rfl (fun K' hK => ?_)
            go_simp
            refine hK.out _ _ (fun h => absurd h (by decide)) (fun _ => ?_)
            (try simp only [Act.put, List.setIfInBounds_toArray, List.set_cons_zero, List.set_cons_succ])
            refine G_done (by kernel_rfl) ?_ _
            (try dsimp only [Exit.then])
            clear s4 hs4 hfz hcz HJ1 HRl HJ
            generalize w4.setCell ⟨B5, 4, none⟩ (.slice (some ⟨g4, 0, none⟩) (j + 1) cap4) = W5 at *
            go_wp2
            go_roundw
            case rel => exact ⟨j + 1, _, _, by omega, by go_num, HI5⟩
            case measure => simp [intOf]; omega
          · obtain ⟨fv0, hfv0⟩ : ∃ q, q = fv := ⟨_, rfl⟩
            have HI : Hid (Inn W4 A B5 sv nv mv ov fv A.G A.K Vn Vf wr) := hid (by
              obtain rfl : j = A.K := by omega
              exact HJ.out)
            clear HJ hfv0
            obtain ⟨Wz, hWz⟩ : ∃ q, q = wr := ⟨_, rfl⟩
            subst hWz
            obtain ⟨sa1, sc1, na1, nc1, ma1, mc1, oa1, oc1, fa1, fc1, rfl, rfl, rfl, rfl, rfl, HA1⟩ := HI.out.aw H.out
            have C4I : Hid (Calls Try.prog 4 #[.agg #[.slice sa1 A.sn sc1, .slice na1 A.G nc1, .slice ma1 A.M mc1, .slice oa1 A.O oc1, .slice fa1 A.K fc1]] Wz fun e w' => SiIs Wz A e w') := hid (single_any { A with sa := sa1, sc := sc1, na := na1, nc := nc1, ma := ma1, mc := mc1, oa := oa1, oc := oc1, fa := fa1, fc := fc1 } Wz HA1.out.1)
            obtain ⟨⟨q0, q1, q2, q3, q4⟩, _⟩ := five_c HI.out.aut
            have HLz : Hid (Below w.heap.size w Wz) := hid (HB4.out.trans (HI.out.low.mono HB4.out.size))
            go_wp2_with fail
            refine C4I.out.mono ?_
            intro e w16 hs
            obtain ⟨sa2, sn2, sc2, na2, G2, nc2, ma2, M2, mc2, oa2, O2, oc2, fa2, K2, fc2, er2, rfl, HH⟩ := si_cases hs
            clear hs C4I q0 q1 q2 q3 q4
            obtain ⟨W17, hW17, hb17, hk17⟩ := box5g w16 (.slice sa2 sn2 sc2) (.slice na2 G2 nc2) (.slice ma2 M2 mc2) (.slice oa2 O2 oc2) (.slice fa2 K2 fc2)
            have h17 : Below Wz.heap.size Wz W17 := HH.out.1.trans (hb17.mono HH.out.1.size)
            have HI17 := hid (HI.out.below h17)
            have HL17 := hid (HLz.out.trans (h17.mono HLz.out.size))
            have H17 := hid (And.intro h17 (And.intro hb17 hk17))
            have HK17 : Hid (W17.heap[w.heap.size]? = _) := hid ((HI17.out.low.block _ (Array.getElem?_eq_some_iff.1 HK4.out).1).trans HK4.out)
            have C8 : Hid (Calls Try.prog 8 #[.agg #[.slice sa1 A.sn sc1, .slice na1 A.G nc1, .slice ma1 A.M mc1, .slice oa1 A.O oc1, .slice fa1 A.K fc1], .agg #[.slice A.sa A.sn A.sc, .slice na A.G A.nc, .slice A.ma A.M A.mc, .slice A.oa A.O A.oc, .slice fa A.K A.fc]] W17 fun e w' => e = .returned (.bool true) ∧ Below W17.heap.size W17 w') := hid (by
              have := same_any { A with sa := sa1, sc := sc1, na := na1, nc := nc1, ma := ma1, mc := mc1, oa := oa1, oc := oc1, fa := fa1, fc := fc1 } A W17 (HA1.out.1.below h17) (H.out.below HL17.out) ⟨rfl, rfl, rfl, rfl, rfl, rfl, rfl, rfl, rfl, rfl, rfl, rfl⟩
              rw [HV.out] at this
              exact this)
            obtain ⟨⟨r0, r1, r2, r3, r4⟩, _⟩ := five_c HI17.out.aut
            obtain ⟨⟨s0, s1, s2, s3, s4⟩, _⟩ := five_c HK17.out
            clear h17 hb17 hk17
            go_wp2_with fail
            refine C8.out.mono ?_
            rintro e w18 ⟨rfl, hb18⟩
            have HI18 := hid (HI17.out.below hb18)
            have HL18 := hid (HL17.out.trans (hb18.mono HL17.out.size))
            have H18 := hid hb18
            have HK18 : Hid (w18.heap[w.heap.size]? = _) := hid ((hb18.block _ (Array.getElem?_eq_some_iff.1 HK17.out).1).trans HK17.out)
            have C9 := hid (kept9 HO.out.s44 HI18.out.st)
            have h24g := HO.out.g24
            have h24k := HO.out.k24
            have C11 := hid (contains11 na1 A.G nc1 W4.heap.size A.L A.Z w18 (by omega) HO.out.l44 ((HA1.out.2.1.below H17.out.1).below hb18))
            have C12 := hid (contains12 fa1 A.K fc1 W4.heap.size A.FL A.FZ w18 (by omega) HO.out.f44 ((HA1.out.2.2.below H17.out.1).below hb18))
            obtain ⟨⟨t0, t1, t2, t3, t4⟩, _⟩ := five_c HI18.out.aut
            obtain ⟨⟨u0, u1, u2, u3, u4⟩, _⟩ := five_c HK18.out
            clear hb18 r0 r1 r2 r3 r4 s0 s1 s2 s3 s4 C8 h24g h24k
            go_wp2_with fail
            refine C9.out.mono ?_
            rintro e w' ⟨rfl, hq⟩
            obtain rfl := hq.symm
            go_wp2_with fail
            refine C11.out.mono ?_
            rintro e w' ⟨rfl, hq⟩
            obtain rfl := hq.symm
            go_wp2_with fail
            refine C12.out.mono ?_
            rintro e w' ⟨rfl, hq⟩
            obtain rfl := hq.symm
            have C4A : Hid (Calls Try.prog 4 #[.agg #[.slice A.sa A.sn A.sc, .slice na A.G A.nc, .slice A.ma A.M A.mc, .slice A.oa A.O A.oc, .slice fa A.K A.fc]] w18 fun e w' => SiIs w18 A e w') := hid (by rw [← HV.out]; exact single_any A w18 (H.out.below HL18.out))
            clear C9 C11 C12
            go_wp2_with fail
            refine C4A.out.mono ?_
            intro e w19 hs
            obtain ⟨sa3, sn3, sc3, na3, G3, nc3, ma3, M3, mc3, oa3, O3, oc3, fa3, K3, fc3, er3, rfl, HD⟩ := si_cases hs
            clear hs C4A t0 t1 t2 t3 t4 u0 u1 u2 u3 u4
            obtain ⟨W20, hW20, hb20, hk20⟩ := box5g w19 (.slice sa3 sn3 sc3) (.slice na3 G3 nc3) (.slice ma3 M3 mc3) (.slice oa3 O3 oc3) (.slice fa3 K3 fc3)
            have h20 : Below w18.heap.size w18 W20 := HD.out.1.trans (hb20.mono HD.out.1.size)
            have HI20 := hid (HI18.out.below h20)
            have HL20 := hid (HL18.out.trans (h20.mono HL18.out.size))
            have H20 := hid (And.intro h20 (And.intro hb20 hk20))
            obtain ⟨⟨t0, t1, t2, t3, t4⟩, _⟩ := five_c HI20.out.aut
            clear h20 hb20 hk20
            go_wp2
            clear t0 t1 t2 t3 t4
            have h24g := HO.out.g24
            go_loopw [102] (fun i wr => ∃ j : Nat, j ≤ A.G ∧ i = .int .i64 j ∧ Hid (Spq W4.heap.size Wz.heap.size W20 wr)) (fun i _ => A.G - (intOf i).toNat)
            case atStart => exact ⟨0, Nat.zero_le _, rfl, hid (Spq.refl _ _ _)⟩
            case round =>
              obtain ⟨j, hj, rfl, HP⟩ := hrel
              by_cases hlt : j < A.G
              · have hnt := HI20.out.nt
                rcases hnt.2 with ⟨_, h0⟩ | ⟨g0, cap0, cur0, e0, _, hg0, _⟩
                · omega
                · cases e0
                  obtain ⟨v, hv, hr⟩ := HI.out.nr j hlt
                  have hcell := hnt.cells (g := g0) rfl j v hv
                  rw [Addr.add_mid, Nat.zero_add] at hcell
                  have hsame : wr.heap[g0]? = W20.heap[g0]? := HP.out.other g0 (fun c t hc => by rw [hg0] at hc; cases hc; decide)
                  have hcw : wr.cell? ⟨g0, j, none⟩ = some v := (World.cell?_of_block (w := W20) (a := ⟨g0, j, none⟩) hsame).trans hcell
                  obtain ⟨gr, cr, rfl, _⟩ := hr.row
                  have C13 := hid (spoil13 (x := 0) ((((hr.spo (Nat.le_refl _)).below H17.out.1).below H18.out).below H20.out.1 |>.spq HP.out))
                  clear hnt hg0 hv hr hcell hsame
                  go_wp2_with fail
                  refine C13.out.mono ?_
                  rintro e w21 ⟨rfl, hsp⟩
                  have HP2 := hid (HP.out.trans hsp)
                  clear hsp C13
                  go_wp2
                  go_roundw
                  case rel => exact ⟨j + 1, by omega, by go_num, HP2⟩
                  case measure => simp [intOf]; omega
              · obtain ⟨⟨t0, t1, t2, t3, t4⟩, _⟩ := five_c (HP.out.auto HI20.out.aut)
                have C13 := hid (spoil13 (x := 0) ((((HI.out.st.spo (Nat.le_refl _)).below H17.out.1).below H18.out).below H20.out.1 |>.spq HP.out))
                go_wp2_with fail
                refine C13.out.mono ?_
                rintro e w21 ⟨rfl, hsp⟩
                have HP2 := hid (HP.out.trans hsp)
                clear hsp C13 t0 t1 t2 t3 t4
                obtain ⟨⟨t0, t1, t2, t3, t4⟩, _⟩ := five_c (HP2.out.auto HI20.out.aut)
                have C14 := hid (spoil14 (x := 5) ((((HI.out.ms.spo (Nat.le_refl _)).below H17.out.1).below H18.out).below H20.out.1 |>.spq HP2.out))
                go_wp2_with fail
                refine C14.out.mono ?_
                rintro e w22 ⟨rfl, hsp⟩
                have HP3 := hid (HP2.out.trans hsp)
                have HL22 : Hid (Below w.heap.size w w22) := hid (HP3.out.below HL20.out HB4.out.size)
                clear hsp C14 t0 t1 t2 t3 t4
                by_cases h2 : er2 = 0
                · have g2 : (er2 != 0) = false := by simp [h2]
                  obtain ⟨hc0, k1, ga1, gc1, g1, V1, a1, a2, a3, a4, a5, a6, a7, hO1⟩ := HH.out.2.1 h2
                  have h3 : er3 = 0 := Classical.byContradiction (fun hne => by
                    rcases HD.out.2.2 hne with hx | ⟨kx, hx⟩
                    · exact hx hc0
                    · have := sg_nobig hO1.hk hO1.k2 kx; omega)
                  obtain ⟨_, k3, ga3, gc3, g3, V3, d1, d2, d3, d4, d5, d6, d7, hO3⟩ := HD.out.2.1 h3
                  obtain rfl := sg_uniq hO1.hk hO3.hk
                  subst a1 a2 a3 a4 a5 a6 a7 d1 d2 d3 d4 d5 d6 d7
                  have hz16 : Wz.heap.size ≤ w16.heap.size := HH.out.1.size
                  have hz17 := H17.out.2.1.size
                  have hz18 := H18.out.size
                  have hz19 := HD.out.1.size
                  have hz20 := H20.out.2.1.size
                  have p1 : SiO Wz.heap.size A _ sa2 sc2 na2 nc2 ma2 mc2 oa2 oc2 ga1 gc1 g1 V1 w22 := hO1.of (fun b hb hl => by
                    rw [HP3.out.out b (Or.inr hb), H20.out.1.block b (by omega), H18.out.block b (by omega), H17.out.2.1.block b hl])
                  have p3 : SiO w18.heap.size A _ sa3 sc3 na3 nc3 ma3 mc3 oa3 oc3 ga3 gc3 g3 V3 w22 := hO3.of (fun b hb hl => by
                    rw [HP3.out.out b (Or.inr (by omega)), H20.out.2.1.block b hl])
                  have aw1 := aw_of_si H.out hc0 p1.hk p1.k2 p1.s p1.n p1.m p1.o p1.g p1.f
                  have aw3 := aw_of_si H.out hc0 p3.hk p3.k2 p3.s p3.n p3.m p3.o p3.g p3.f
                  have CS := hid (same_any _ _ w22 aw1 aw3 ⟨rfl, rfl, rfl, rfl, rfl, rfl, rfl, rfl, rfl, rfl, rfl, rfl⟩)
                  obtain ⟨⟨c0, c1, c2, c3, c4⟩, _⟩ := five_c (HP3.out.auto ((H20.out.1.block _ (by have := (Array.getElem?_eq_some_iff.1 H17.out.2.2).1; omega)).trans ((H18.out.block _ (Array.getElem?_eq_some_iff.1 H17.out.2.2).1).trans H17.out.2.2)))
                  obtain ⟨⟨e0, e1, e2, e3, e4⟩, _⟩ := five_c (HP3.out.auto H20.out.2.2)
                  clear hO1 hO3 p1 p3 aw1 aw3 hz16 hz17 hz18 hz19 hz20 h2 h3
                  go_wp2_with fail
                  refine CS.out.mono ?_
                  rintro e w23 ⟨rfl, hb23⟩
                  have HF := hid (HL22.out.trans (hb23.mono HL22.out.size))
                  clear hb23
                  go_wp2
                  go_ret
                  exact ⟨rfl, HF.out⟩
                · have g2 : (er2 != 0) = true := by simp [h2]
                  clear h2
                  go_wp2
                  go_ret
                  exact ⟨rfl, HL22.out⟩

end Go.Proofs.Ytdncjikmknkkpab
