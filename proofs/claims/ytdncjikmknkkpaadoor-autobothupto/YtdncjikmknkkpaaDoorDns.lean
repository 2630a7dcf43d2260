/- The document's numbered. -/
import Derived.Test.YtdncjikmknkkpaaDoorDnoJ
import Derived.Test.YtdncjikmknkkpaaDoorGth0J
import Derived.Test.YtdncjikmknkkpaaDoorSgl
namespace Go.Proofs.YtdncjikmknkkpaaDoor
open Go.RowKit

theorem nNums_pre {Q R xs : List (Nat × Nat)} (hm : ∀ x ∈ xs, x ∈ Q) (hp : Q <+: R) : nNums R xs = nNums Q xs := by
  unfold nNums
  congr 1
  exact List.map_congr_left (fun x hx => ix_pre (hm x hx) hp)

/-- While numbered goes on. -/
structure Nb (w : World) (Bl : Nat) (start : List (Nat × Nat)) (nx : Nat × Nat → List (Nat × Nat)) (Q : List (Nat × Nat)) (k : Nat) (W : World) (pv fv tv : Value) (V : List Value) : Prop where
  var : W.heap[Bl]? = some (.cells #[pv] 87)
  own : W.ownsRow 0 88 2 pv Q.length (pcells Q)
  pvb : ∀ b, pv.ownBlock = some b → w.heap.size ≤ b
  fro : W.ownsRow w.heap.size 3 1 fv (cs (nNums Q start)).length (vals (cs (nNums Q start)))
  top : W.ownsRow w.heap.size 22 1 tv k V
  row : ∀ i, i < k → ∃ v, V[i]? = some v ∧ W.ownsRow w.heap.size 3 1 v (cs (nNums Q (nx (nAt Q i)))).length (vals (cs (nNums Q (nx (nAt Q i)))))
  low : Below w.heap.size w W

theorem Nb.below {w : World} {Bl : Nat} {start : List (Nat × Nat)} {nx : Nat × Nat → List (Nat × Nat)} {Q : List (Nat × Nat)} {k : Nat} {W W' : World} {pv fv tv : Value} {V : List Value} (h : Nb w Bl start nx Q k W pv fv tv V) (hb : Below W.heap.size W W') : Nb w Bl start nx Q k W' pv fv tv V :=
  ⟨(hb.block _ (Array.getElem?_eq_some_iff.1 h.var).1).trans h.var, owns_below h.own hb, h.pvb, owns_below h.fro hb, owns_below h.top hb, fun i hi => by
    obtain ⟨v, h1, h2⟩ := h.row i hi
    exact ⟨v, h1, owns_below h2 hb⟩, h.low.trans (hb.mono h.low.size)⟩

/-- The list has grown. -/
theorem Nb.grow {w : World} {Bl : Nat} {start : List (Nat × Nat)} {nx : Nat × Nat → List (Nat × Nat)} {Q R : List (Nat × Nat)} {k : Nat} {W W2 : World} {pv pv' fv tv : Value} {V : List Value} (h : Nb w Bl start nx Q k W pv fv tv V) (hp : Q <+: R) (hst : ∀ x ∈ start, x ∈ Q) (hnx : ∀ i, i < k → ∀ x ∈ nx (nAt Q i), x ∈ Q) (hk : k ≤ Q.length)
    (h1 : W2.heap[Bl]? = some (.cells #[pv'] 87)) (h2 : W2.ownsRow 0 88 2 pv' R.length (pcells R)) (hf : Fr (fun b => b = Bl ∨ pv.ownBlock = some b) W W2) (hl : pv'.ownBlock = pv.ownBlock ∨ ∀ b, pv'.ownBlock = some b → W.heap.size ≤ b) (hBl : w.heap.size ≤ Bl) : Nb w Bl start nx R k W2 pv' fv tv V := by
  have hkeep : ∀ {base : Nat} {e : TypeId} {v : Value} {m : Nat} {xs : List Value}, e ≠ 87 → e ≠ 88 → W.ownsRow base e 1 v m xs → W2.ownsRow base e 1 v m xs := fun {base e v m xs} he1 he2 h3 => owns_of_blk h3 (fun b e1 => by
    obtain ⟨c, z, h4⟩ := owns_blk h3 e1
    exact hf.block b (Array.getElem?_eq_some_iff.1 h4).1 (fun hx => by
      rcases hx with hx | hx
      · rw [hx, h.var] at h4
        cases h4
        exact he1 rfl
      · obtain ⟨c2, z2, h5⟩ := owns_blk h.own hx
        rw [h4] at h5
        cases h5
        exact he2 rfl))
  refine ⟨h1, h2, fun b hb => ?_, ?_, hkeep (by decide) (by decide) h.top, fun i hi => ?_, ?_⟩
  · rcases hl with e | e
    · exact h.pvb b (by rw [← e]; exact hb)
    · exact Nat.le_trans h.low.size (e b hb)
  · rw [nNums_pre hst hp]
    exact hkeep (by decide) (by decide) h.fro
  · obtain ⟨v, h3, h4⟩ := h.row i hi
    refine ⟨v, h3, ?_⟩
    rw [nAt_pre hp (by omega), nNums_pre (hnx i hi) hp]
    exact hkeep (by decide) (by decide) h4
  · refine ⟨hf.os.trans h.low.os, hf.tape.trans h.low.tape, hf.output.trans h.low.output, Nat.le_trans h.low.size hf.size, fun b hb => ?_⟩
    rw [hf.block b (Nat.lt_of_lt_of_le hb h.low.size) (fun hx => by
      rcases hx with hx | hx
      · omega
      · have := h.pvb b hx; omega)]
    exact h.low.block b hb

/-- One row more. -/
theorem Nb.app {w : World} {Bl : Nat} {start : List (Nat × Nat)} {nx : Nat × Nat → List (Nat × Nat)} {R : List (Nat × Nat)} {k : Nat} {W W3 : World} {pv fv tv tv' lv : Value} {V : List Value} {o : Obj} (h : Nb w Bl start nx R k W pv fv tv V) (hl : W.ownsRow w.heap.size 3 1 lv (cs (nNums R (nx (nAt R k)))).length (vals (cs (nNums R (nx (nAt R k))))))
    (hown : W3.ownsRow w.heap.size 22 1 tv' (k + 1) (V ++ [lv])) (hgr : (W.alloc o).grownBy W3 tv.ownBlock) : Nb w Bl start nx R (k + 1) W3 pv fv tv' (V ++ [lv]) := by
  have hg := (World.grownBy_alloc W o tv.ownBlock).trans hgr
  have hk : ∀ {b : Nat} {c : Array Value} {t : TypeId} {z : Nat × Nat}, W.heap[b]? = some (.cells c t z) → t ≠ 22 → W3.heap[b]? = W.heap[b]? := fun {b c t z} hb ht => hg.block b (Array.getElem?_eq_some_iff.1 hb).1 (fun e => by
    obtain ⟨c2, z2, h6⟩ := owns_blk h.top e.symm
    rw [hb] at h6
    cases h6
    exact ht rfl)
  have hkeep : ∀ {base : Nat} {e : TypeId} {size : Nat} {v : Value} {m : Nat} {xs : List Value}, e ≠ 22 → W.ownsRow base e size v m xs → W3.ownsRow base e size v m xs := fun {base e size v m xs} he h3 => owns_of_blk h3 (fun b e1 => by
    obtain ⟨c, z, h4⟩ := owns_blk h3 e1
    exact hk h4 he)
  have hVl : V.length = k := by have := h.top.1; omega
  refine ⟨(hk h.var (by decide)).trans h.var, hkeep (by decide) h.own, h.pvb, hkeep (by decide) h.fro, hown, fun i hi => ?_, h.low.grown hg h.low.size (fun b hb => (h.top.lt b hb).1)⟩
  by_cases e : i = k
  · subst e
    exact ⟨lv, by rw [List.getElem?_append_right (by omega), hVl]; simp, hkeep (by decide) hl⟩
  · obtain ⟨v, h3, h4⟩ := h.row i (by omega)
    exact ⟨v, by rw [List.getElem?_append_left (by omega)]; exact h3, hkeep (by decide) h4⟩

theorem Nb.set {w : World} {Bl : Nat} {start : List (Nat × Nat)} {nx : Nat × Nat → List (Nat × Nat)} {R : List (Nat × Nat)} {k : Nat} {W : World} {pv fv tv : Value} {V : List Value} (h : Nb w Bl start nx R k W pv fv tv V) (hBl : w.heap.size ≤ Bl) : Nb w Bl start nx R k (W.setCell ⟨Bl, 0, none⟩ pv) pv fv tv V := by
  have hbut : But Bl W (W.setCell ⟨Bl, 0, none⟩ pv) := (But.refl _ _).setCell 0 _
  have hkeep : ∀ {base : Nat} {e : TypeId} {size : Nat} {v : Value} {m : Nat} {xs : List Value}, e ≠ 87 → W.ownsRow base e size v m xs → (W.setCell ⟨Bl, 0, none⟩ pv).ownsRow base e size v m xs := fun {base e size v m xs} he h3 => owns_of_blk h3 (fun b e1 => by
    obtain ⟨c, z, h4⟩ := owns_blk h3 e1
    exact hbut.block b (Array.getElem?_eq_some_iff.1 h4).1 (fun e2 => by
      rw [e2, h.var] at h4
      cases h4
      exact he rfl))
  refine ⟨?_, hkeep (by decide) h.own, h.pvb, hkeep (by decide) h.fro, hkeep (by decide) h.top, fun i hi => ?_, h.low.setCell hBl _⟩
  · have e := blk_setCell (i := 0) (v := pv) h.var
    simpa using e
  · obtain ⟨v, h3, h4⟩ := h.row i hi
    exact ⟨v, h3, hkeep (by decide) h4⟩

/-- What numbered answers. -/
def NbIs (w : World) (start : List (Nat × Nat)) (nx : Nat × Nat → List (Nat × Nat)) (e : Ending) (w' : World) : Prop :=
  (∃ (k : Nat) (pa : Option Addr) (pc : Nat) (fv tv : Value) (V : List Value), e = .returned (.tuple #[.slice pa k pc, fv, tv, .bool true]) ∧ Hid ((gQ nx start k).length = k ∧ k ≤ 2048 ∧ Nb w w.heap.size start nx (gQ nx start k) k w' (.slice pa k pc) fv tv V))
  ∨ (e = .returned (.tuple #[.slice none 0 0, .slice none 0 0, .slice none 0 0, .bool false]) ∧ Hid ((∃ k, 2048 < (gQ nx start k).length) ∧ Below w.heap.size w w'))

set_option maxRecDepth 100000 in
set_option maxHeartbeats 4000000 in
theorem numbered_any (a : Option Addr) (n c : Nat) (start : List (Nat × Nat)) (nx : Nat × Nat → List (Nat × Nat)) (Pd : Nat × Nat → Prop) (c1 c2 c3 : Value) (w : World) (hn : n = start.length) (hs : Sp w a n (nAt start)) (ha0 : ∀ p, a = some p → p.block < w.heap.size) (hst : ∀ p ∈ start, Pd p) (hPd : ∀ p, Pd p → ∀ q ∈ nx p, Pd q) (hsml : ∀ p, Pd p → Sml p) (hlen : n ≤ 1099511627776) (hnl : ∀ p, Pd p → (nx p).length ≤ 1099511627776)
    (hnx : ∀ (p : Nat × Nat) (u : World), Below w.heap.size w u → Pd p → Calls Tryd.prog 53 #[.agg #[.int .i64 ((p.1 : Nat) : Int), .int .i64 ((p.2 : Nat) : Int)], c1, c2, c3] u fun e u' => ∃ xa xc, e = .returned (.slice xa (nx p).length xc) ∧ Hid (Below u.heap.size u u' ∧ Sp u' xa (nx p).length (nAt (nx p)) ∧ ∀ q, xa = some q → u.heap.size ≤ q.block)) :
    Calls Tryd.prog 52 #[.slice a n c, .func (.func 53) #[] #[c1, c2, c3]] w fun e w' => NbIs w start nx e w' := by
  obtain ⟨W1, hW1, hb1, hs1, y1, yf1, hk1⟩ := box1 w (.slice none 0 0) 87
  have hmf : ∀ (fn : Fn) (first cap : Array Value) (w : World), (Instr.makeFunc fn first cap).run Tryd.prog w = .ok (.func fn first cap) w := fun _ _ _ _ => rfl
  have C35 := hid (nu1_any a n c start w.heap.size (.slice none 0 0) [] W1 hn (hs.below hb1) hk1 (World.ownsRow_nil _ _ _ _) List.nodup_nil (fun p hp => (by cases hp)) (fun p hp => hsml p (hst p hp)) (fun p hp => ⟨by have := ha0 p hp; omega, by simp [Value.ownBlock]⟩) (by simp; omega))
  have HNX := hid hnx
  have HPD := hid (And.intro hst (And.intro hPd (And.intro hsml hnl)))
  have HB1 := hid (And.intro hb1 hs1)
  have hgall : ∀ k, ∀ p ∈ gQ nx start k, Pd p := fun k p hp => by
    refine nRun_all (P := Pd) hPd k 0 (fun x hx => ?_) p hp
    rcases (mem_nAdds _ _).1 hx with hx | hx
    · cases hx
    · exact hst x hx
  have HGA := hid hgall
  have HN0 := hid hn
  obtain ⟨i2, hi, hz0, hz1, hz2⟩ := info_parts Tryd.info22
  have HI : Hid (Tryd.prog.info? 22 = some i2 ∧ i2.zero = some (.slice none 0 0) ∧ i2.size = 1 ∧ i2.bytes = 24) := ⟨hi, hz0, hz1, hz2⟩
  clear hi hz0 hz1 hz2 hnx hst hPd hsml hnl hs hn ha0 hb1 hs1 y1 yf1 hk1 hgall
  go_enter Tryd.func52, Tryd.ntmps52
  go_wp2_with fail
  refine C35.out.mono ?_
  rintro e w2 ⟨la, lc, pv, rfl, HN⟩
  have HNb : Hid (Nb w w.heap.size start nx (gQ nx start 0) 0 w2 pv (.slice la (nNums (nAdds [] start) start).length lc) (.slice none 0 0) []) := hid ⟨HN.out.1, HN.out.2.1, fun b hb => by
    rcases HN.out.2.2.2.2 with e | e
    · rw [e] at hb; simp [Value.ownBlock] at hb
    · have := e b hb; have := HB1.out.2; omega, owns_mono HN.out.2.2.1 HB1.out.1.size, World.ownsRow_nil _ _ _ _, fun i hi => absurd hi (Nat.not_lt_zero _), ⟨HN.out.2.2.2.1.os.trans HB1.out.1.os, HN.out.2.2.2.1.tape.trans HB1.out.1.tape, HN.out.2.2.2.1.output.trans HB1.out.1.output, Nat.le_trans HB1.out.1.size HN.out.2.2.2.1.size, fun b hb => by
      rw [HN.out.2.2.2.1.block b (by have := HB1.out.2; omega) (fun hx => by
        rcases hx with hx | hx
        · omega
        · simp [Value.ownBlock] at hx)]
      exact HB1.out.1.block b hb⟩⟩
  obtain ⟨fv, hfv⟩ : ∃ fv, Value.slice la (nNums (nAdds [] start) start).length lc = fv := ⟨_, rfl⟩
  rw [hfv] at HNb ⊢
  have HL0 : Hid ((gQ nx start 0).length ≤ 1099511627776) := hid (by have h1 := nAdds_len start []; show (nAdds [] start).length ≤ _; have h2 := hlen; have h3 := HN0.out; simp at h1; omega)
  clear C35 HN hfv
  go_wp2
  go_loopw [5, 6, 9] (fun v5 tv i wr => ∃ (k : Nat) (pv : Value) (V : List Value), k ≤ 2048 ∧ v5 = fv ∧ i = .int .i64 k ∧ Hid (Nb w w.heap.size start nx (gQ nx start k) k wr pv fv tv V ∧ k ≤ (gQ nx start k).length ∧ (gQ nx start k).length ≤ 1099511627776 ∧ (k ≠ 0 → (gQ nx start k).length ≤ 2048))) (fun _ _ i _ => 2049 - (intOf i).toNat)
  case atStart => exact ⟨0, pv, [], by omega, rfl, rfl, hid ⟨HNb.out, Nat.zero_le _, HL0.out, fun h => absurd rfl h⟩⟩
  case round =>
    obtain ⟨k, pv, V, hk, rfl, rfl, H⟩ := hrel
    clear HNb HL0
    obtain ⟨va, vc, hv, hsp⟩ := owns_pd H.out.1.own
    obtain ⟨qn, hqn⟩ : ∃ qn, (gQ nx start k).length = qn := ⟨_, rfl⟩
    rw [hqn] at hv hsp
    subst hv
    obtain ⟨ta, tc, ht⟩ := owns_sl H.out.1.top
    subst ht
    have yv : wr.cell? ⟨w.heap.size, 0, none⟩ = some (.slice va qn vc) := cell_of_cells H.out.1.var rfl
    have hq1 := H.out.2.1
    have hq2 := H.out.2.2.1
    have hq3 := H.out.2.2.2
    rw [hqn] at hq1 hq2 hq3
    have HQN := hid hqn
    have HQ3 := hid hq3
    clear hqn hq3
    by_cases hlt : k < qn
    · obtain ⟨b, ha, hc⟩ := hsp
      obtain rfl := ha (by omega)
      obtain ⟨z0, z1⟩ := hc k hlt
      obtain ⟨p, hp⟩ : ∃ p, nAt (gQ nx start k) k = p := ⟨_, rfl⟩
      rw [hp] at z0 z1
      have hkq : k < (gQ nx start k).length := by rw [HQN.out]; exact hlt
      have hpd : Pd p := HGA.out k _ (by rw [← hp]; exact nAt_mem hkq)
      have hR : nAdds (gQ nx start k) (nx p) = gQ nx start (k + 1) := by rw [gQ_some (nAt_some hkq), hp]
      have C25 := hid (HNX.out p wr H.out.1.low hpd)
      obtain ⟨xn, hxn⟩ : ∃ xn, (nx p).length = xn := ⟨_, rfl⟩
      rw [hxn] at C25
      obtain ⟨px, py⟩ := p
      dsimp only at z0 z1 C25
      have HP := hid (And.intro hp (And.intro hpd (And.intro hR (And.intro hxn hkq))))
      clear hp hpd hR hxn hkq hc
      go_wp2_with fail
      refine C25.out.mono ?_
      rintro e u1 ⟨xa, xc, rfl, HX⟩
      have HB := hid (H.out.1.below HX.out.1)
      have hbw : b < wr.heap.size ∧ w.heap.size ≤ b := ⟨World.block_lt_of_cell? _ _ z0, H.out.1.pvb b rfl⟩
      have C35 := hid (nu1_any xa xn xc (nx (px, py)) w.heap.size (.slice (some ⟨b, 0, none⟩) qn vc) (gQ nx start k) u1 HP.out.2.2.2.1.symm HX.out.2.1 HB.out.var HB.out.own (nAll_nodup _ _ _) (fun q hq => HPD.out.2.2.1 q (HGA.out k q hq)) (fun q hq => HPD.out.2.2.1 q (HPD.out.2.1 _ HP.out.2.1 q hq)) (fun q hq => by
        have h1 := HX.out.2.2 q hq
        have h2 := H.out.1.low.size
        refine ⟨by have h3 := World.block_lt_of_cell? _ _ yv; dsimp only at h3; omega, fun e => ?_⟩
        have h4 : b = q.block := Option.some.inj e
        omega) (by have h1 := HPD.out.2.2.2 _ HP.out.2.1; rw [HP.out.2.2.2.1] at h1; rw [HQN.out]; omega))
      clear yv z0 z1 C25 hbw
      go_wp2_with fail
      refine C35.out.mono ?_
      rintro e u2 ⟨la2, lc2, pv2, rfl, HN2⟩
      have HG : Hid (Nb w w.heap.size start nx (gQ nx start (k + 1)) k u2 pv2 _ (.slice ta k tc) V) := hid (by
        have h1 := HN2.out.1
        have h2 := HN2.out.2.1
        rw [HP.out.2.2.1] at h2
        exact HB.out.grow (gQ_pre nx start k) (fun x hx => nAll_start hx) (fun i hi x hx => gQ_mem hi (by have := HP.out.2.2.2.2; omega) x hx) (by have := HP.out.2.2.2.2; omega) h1 h2 HN2.out.2.2.2.1 HN2.out.2.2.2.2 (Nat.le_refl _))
      obtain ⟨v2, vc2, hv2, _⟩ := owns_pd HG.out.own
      obtain ⟨q2, hq2e⟩ : ∃ q2, (gQ nx start (k + 1)).length = q2 := ⟨_, rfl⟩
      rw [hq2e] at hv2
      subst hv2
      have HLV := HN2.out.2.2.1
      rw [HP.out.2.2.1] at HLV
      obtain ⟨ln, hln⟩ : ∃ ln, (nNums (nAdds (gQ nx start k) (nx (px, py))) (nx (px, py))).length = ln := ⟨_, rfl⟩
      rw [hln]
      have HLR : Hid (u2.ownsRow w.heap.size 3 1 (.slice la2 ln lc2) (cs (nNums (gQ nx start (k + 1)) (nx (nAt (gQ nx start (k + 1)) k)))).length (vals (cs (nNums (gQ nx start (k + 1)) (nx (nAt (gQ nx start (k + 1)) k)))))) := hid (by
        rw [nAt_pre (gQ_pre nx start k) HP.out.2.2.2.2, HP.out.1]
        rw [← HP.out.2.2.1, hln] at HLV
        rw [← HP.out.2.2.1]
        exact owns_mono HLV HB.out.low.size)
      have HQ2 := hid hq2e
      have hql : k < q2 := by have h1 := (gQ_pre nx start k).length_le; rw [HQN.out, HQ2.out] at h1; omega
      have hus : w.heap.size ≤ u2.heap.size := HG.out.low.size
      have hq2b : q2 ≤ 3298534883328 := by
        have h1 := nAdds_len (nx (px, py)) (gQ nx start k)
        rw [HP.out.2.2.1, HQ2.out, HQN.out] at h1
        have h2 := HPD.out.2.2.2 _ HP.out.2.1
        omega
      have hVl : V.length = k := by have := HG.out.top.1; omega
      have HVL := hid hVl
      clear HLV hln hq2e C35 hVl
      by_cases hbig : 2048 < q2
      · have hb1 : (2048 : Int) < (q2 : Int) := by omega
        go_wp2_with (at_builtin; refine wpList_append_own_at _ rfl _ _ 23 rfl w.heap.size 22 i2 (.slice none 0 0) 1 24 Tryd.underlying23 HI.out.1 HI.out.2.1 HI.out.2.2.1 HI.out.2.2.2 rfl (by decide) _ _ _ rfl (HG.out.top.alloc _) ⟨u2.heap.size, 0, none⟩ 1 1 [.slice la2 ln lc2] rfl rfl (cell_one_new _ _ _) (by simp [Value.oneCell']) (by unfold maxLen; omega) (by omega) (by simp; omega) ?_; intro v' w3 hown' hgrow hnil hloc; have G := hid (HG.out.app HLR.out hown' hgrow); have y3 : w3.cell? ⟨w.heap.size, 0, none⟩ = some (.slice v2 q2 vc2) := cell_of_cells G.out.var rfl; have yf3 : w3.frozen? ⟨w.heap.size, 0, none⟩ = false := (by have hh := G.out.var; unfold World.frozen?; simp only [hh]; rfl); have hx3 := blk_setCell (i := 0) (v := .slice none 0 0) G.out.var; have x3 : (w3.setCell ⟨w.heap.size, 0, none⟩ (.slice none 0 0)).cell? ⟨w.heap.size, 0, none⟩ = some (.slice none 0 0) := cell_of_cells hx3 rfl; clear hown' hgrow hnil hloc hx3)
        refine ⟨rfl, .tuple #[.slice none 0 0, .slice none 0 0, .slice none 0 0, .bool false], by simp [results, Tryd.f52, go_sem, x3], ?_⟩
        exact Or.inr ⟨rfl, hid ⟨⟨k + 1, by rw [HQ2.out]; exact hbig⟩, G.out.low.setCell (Nat.le_refl _) _⟩⟩
      · have hb1 : ¬ (2048 : Int) < (q2 : Int) := by omega
        go_wp2_with (at_builtin; refine wpList_append_own_at _ rfl _ _ 23 rfl w.heap.size 22 i2 (.slice none 0 0) 1 24 Tryd.underlying23 HI.out.1 HI.out.2.1 HI.out.2.2.1 HI.out.2.2.2 rfl (by decide) _ _ _ rfl (HG.out.top.alloc _) ⟨u2.heap.size, 0, none⟩ 1 1 [.slice la2 ln lc2] rfl rfl (cell_one_new _ _ _) (by simp [Value.oneCell']) (by unfold maxLen; omega) (by omega) (by simp; omega) ?_; intro v' w3 hown' hgrow hnil hloc; have G := hid (HG.out.app HLR.out hown' hgrow); have y3 : w3.cell? ⟨w.heap.size, 0, none⟩ = some (.slice v2 q2 vc2) := cell_of_cells G.out.var rfl; clear hown' hgrow hnil hloc)
        go_roundw
        case rel => exact ⟨k + 1, _, _, by omega, rfl, by go_num, hid ⟨G.out, by rw [HQ2.out]; omega, by rw [HQ2.out]; omega, fun _ => by rw [HQ2.out]; omega⟩⟩
        case measure => simp [intOf]; omega
    · have hkq : k = qn := by omega
      have hle : qn ≤ 2048 := by
        by_cases e : k = 0
        · omega
        · exact HQ3.out e
      have hb1 : (qn : Int) ≤ 2048 := by omega
      have yf : wr.frozen? ⟨w.heap.size, 0, none⟩ = false := by have hh := H.out.1.var; unfold World.frozen?; simp only [hh]; rfl
      have HS := hid (H.out.1.set (Nat.le_refl _))
      have x3 : (wr.setCell ⟨w.heap.size, 0, none⟩ (.slice va qn vc)).cell? ⟨w.heap.size, 0, none⟩ = some (.slice va qn vc) := cell_of_cells HS.out.var rfl
      have HKQ := hid (And.intro hkq hle)
      clear hkq hsp
      go_wp2
      refine ⟨rfl, .tuple #[.slice va qn vc, u5, .slice ta k tc, .bool true], by simp [results, Tryd.f52, go_sem, x3], ?_⟩
      obtain ⟨hkq, hle⟩ := HKQ.out
      subst hkq
      exact Or.inl ⟨k, va, vc, u5, _, V, rfl, hid ⟨HQN.out, hle, HS.out⟩⟩

end Go.Proofs.YtdncjikmknkkpaaDoor

