/- The closures of Single; where. -/
import Derived.Test.YtdncjikmknkkpaaDoorSgP
namespace Go.Proofs.YtdncjikmknkkpaaDoor
open Go.RowKit Go.Shelf Go.Maps

/-- What Single's closures read. -/
structure Sgm (A : Ax) (Bf Bn fb fn fc nb nc : Nat) (F : Nat → Nat → Nat) (V : Nat → Value) (w : World) : Prop where
  bf : w.cell? ⟨Bf, 0, none⟩ = some (.slice (some ⟨fb, 0, none⟩) fn fc)
  bn : w.cell? ⟨Bn, 0, none⟩ = some (.slice (some ⟨nb, 0, none⟩) A.G nc)
  ls : Ls w fb fn F
  hn : fn = if A.K = 0 then 1 else A.K
  mf : ∀ k x, k < fn → x < A.G → mem (F k) x = (decide (A.K = 0) || aFr A k x)
  row : ∀ x, x < A.G → w.cell? ⟨nb, x, none⟩ = some (V x) ∧ w.ownsRow 0 3 1 (V x) (cs (aNx A x)).length (vals (cs (aNx A x)))
  ok : chkA A = 0

theorem Sgm.below {A : Ax} {Bf Bn fb fn fc nb nc : Nat} {F : Nat → Nat → Nat} {V : Nat → Value} {w u : World} (h : Sgm A Bf Bn fb fn fc nb nc F V w) (hb : Below w.heap.size w u) : Sgm A Bf Bn fb fn fc nb nc F V u :=
  ⟨below_cell hb (Nat.le_refl _) h.bf, below_cell hb (Nat.le_refl _) h.bn, h.ls.below' hb, h.hn, h.mf, fun x hx => ⟨below_cell hb (Nat.le_refl _) (h.row x hx).1, owns_below (h.row x hx).2 hb⟩, h.ok⟩

theorem box2 (w : World) (x y : Value) (t : TypeId) : ∃ W, w.alloc (.cells #[x, y] t) = W ∧ Below w.heap.size w W ∧ W.heap.size = w.heap.size + 1 ∧ W.cell? ⟨w.heap.size, 0, none⟩ = some x ∧ W.cell? ⟨w.heap.size, 1, none⟩ = some y :=
  ⟨_, rfl, box_below _ _, by simp, cell_of_alloc rfl, cell_of_alloc rfl⟩

theorem onN_le {Z : Nat → Int} {k G : Nat} (hG : G ≤ 2048) (h : ∀ i, i < k → 0 ≤ Z i ∧ Z i < G) : (onN Z k).length ≤ 2048 := onN_len (fun i hi => by have := h i hi; omega)
theorem aNx_len {A : Ax} (h : chkA A = 0) (q : Nat) : (aNx A q).length ≤ 2048 := by
  obtain ⟨hG, _, _, _, _, h1, _⟩ := chkA_ok h
  unfold aNx
  by_cases hq : q < A.G
  · rw [if_pos hq]; exact onN_le hG (h1 q hq)
  · rw [if_neg hq]; simp
theorem aSt_len {A : Ax} (h : chkA A = 0) : (aSt A).length ≤ 2048 := by
  obtain ⟨hG, _, _, _, h1, _⟩ := chkA_ok h
  exact onN_le hG h1

/-- An iterator over states with a number. -/
theorem itc_of {u u' : World} {B Bs Bk : Nat} {a : Option Addr} {c kw : Nat} {l : List Nat} (hl : ∀ x ∈ l, x < 2048) (hlen : l.length ≤ 2048) (hkw : kw < 2048) {mb mo : Nat} (ha : 0 < l.length → a = some ⟨mb, mo, none⟩) (hc : ∀ i, i < l.length → u'.cell? ⟨mb, mo + i, none⟩ = some (.int .i64 ((l.getD i 0 : Nat) : Int)))
    (hmb : 0 < l.length → mb < u'.heap.size ∧ (mb < B ∨ u.heap.size ≤ mb)) (h1 : Bs < B ∨ u.heap.size ≤ Bs) (h2 : Bk < B ∨ u.heap.size ≤ Bk) (hBs : u'.cell? ⟨Bs, 0, none⟩ = some (.slice a l.length c)) (hBk : u'.cell? ⟨Bk, 0, none⟩ = some (.int .i64 (kw : Nat))) :
    ItC u u' B (.func (.func 84) #[] #[.pointer (some ⟨Bs, 0, none⟩), .pointer (some ⟨Bk, 0, none⟩)]) (l.map fun x => (x, kw)) ((l.map fun x => (x, kw)).map mkPr) := by
  have hsm : ∀ p ∈ l.map (fun x => (x, kw)), Sml p := fun p hp => by
    obtain ⟨x, hx, rfl⟩ := List.mem_map.1 hp
    exact ⟨by show x < 4096; have := hl x hx; omega, by show kw < 4096; omega⟩
  refine ⟨84, _, fun b => b = Bs ∨ b = Bk ∨ (0 < l.length ∧ b = mb), rfl, ?_, enters_of Tryd.func84 (by kernel_rfl) rfl, prn_mks hsm, fun b hb => ?_, ?_⟩
  · refine prd_stops 8 Bs Bk mb mo a l.length c kw (fun i => l.getD i 0) _ _ u' hlen ha (by simp) (fun i hi => ?_) (Or.inl rfl) (Or.inr (Or.inl rfl)) (fun h => Or.inr (Or.inr ⟨h, rfl⟩)) hBs hBk hc
    have hx := hl _ (List.getElem_mem hi)
    refine ⟨mkPr (l[i], kw), by simp [hi], ?_, ?_⟩
    · show l[i] % 4096 = l.getD i 0
      rw [Nat.mod_eq_of_lt (by omega), List.getD_eq_getElem?_getD, List.getElem?_eq_getElem hi]; rfl
    · show kw % 4096 = kw
      exact Nat.mod_eq_of_lt (by omega)
  · rcases hb with rfl | rfl | ⟨h, rfl⟩
    · exact ⟨World.block_lt_of_cell? _ _ hBs, h1⟩
    · exact ⟨World.block_lt_of_cell? _ _ hBk, h2⟩
    · exact hmb h
  · rw [List.length_map, List.length_map]; omega

theorem paired57' (sa : Option Addr) (k sc : Nat) (kw : Nat) (w : World) : Calls Tryd.prog 57 #[.slice sa k sc, .int .i64 kw] w fun e w' => ∃ Bs Bk, e = .returned (.func (.func 84) #[] #[.pointer (some ⟨Bs, 0, none⟩), .pointer (some ⟨Bk, 0, none⟩)]) ∧ Hid (w.heap.size ≤ Bs ∧ w.heap.size ≤ Bk ∧ Below w.heap.size w w' ∧ w'.cell? ⟨Bs, 0, none⟩ = some (.slice sa k sc) ∧ w'.cell? ⟨Bk, 0, none⟩ = some (.int .i64 (kw : Nat))) := by
  refine (paired57 sa k sc kw w).mono ?_
  rintro e w' ⟨rfl, rfl⟩
  have b1 := box_below w (.cells #[.slice sa k sc] 22)
  have c1 : (w.alloc (.cells #[.slice sa k sc] 22)).cell? ⟨w.heap.size, 0, none⟩ = some (.slice sa k sc) := cell_of_alloc rfl
  have s1 : (w.alloc (.cells #[.slice sa k sc] 22)).heap.size = w.heap.size + 1 := by simp
  generalize w.alloc (.cells #[.slice sa k sc] 22) = W1 at *
  have b2 := box_below W1 (.cells #[.int .i64 (kw : Nat)] 3)
  have c2 : (W1.alloc (.cells #[.int .i64 (kw : Nat)] 3)).cell? ⟨W1.heap.size, 0, none⟩ = some (.int .i64 (kw : Nat)) := cell_of_alloc rfl
  rw [s1] at c2
  exact ⟨_, _, rfl, hid ⟨Nat.le_refl _, Nat.le_succ _, b1.trans (b2.mono (by omega)), below_cell b2 (Nat.le_refl _) c1, c2⟩⟩

set_option maxRecDepth 100000 in
set_option maxHeartbeats 2000000 in
theorem sgx58 (A : Ax) (Bf Bn fb fn fc nb nc : Nat) (F : Nat → Nat → Nat) (V : Nat → Value) (p : Nat × Nat) (w u : World) (h : Sgm A Bf Bn fb fn fc nb nc F V w) (hb : Below w.heap.size w u) (hp : sgP A p) :
    Calls Tryd.prog 58 #[.agg #[.int .i64 ((p.1 : Nat) : Int), .int .i64 ((p.2 : Nat) : Int)], .pointer (some ⟨Bf, 0, none⟩), .pointer (some ⟨Bn, 0, none⟩)] u fun e u' => ∃ v all, e = .returned v ∧ Below u.heap.size u u' ∧ ItC u u' w.heap.size v (sgX A p) all := by
  have hu := h.below hb
  obtain ⟨hG, hK80, _⟩ := chkA_ok h.ok
  obtain ⟨px, pk⟩ := p
  obtain ⟨hpx, hpk⟩ := hp
  dsimp only at hpx hpk ⊢
  rw [← h.hn] at hpk
  have hfn : fn ≤ 80 := by rw [h.hn]; split <;> omega
  obtain ⟨r1, r2⟩ := h.row px hpx
  obtain ⟨a, c, hv, mb, mo, ha, hc⟩ := owns_row r2
  have y2 := hu.bn
  have y3 := (hu.row px hpx).1
  rw [hv] at y3
  rw [cs_len] at y3 ha hc
  obtain ⟨kw, hkw⟩ : ∃ kw, sNo A.K (aFr A) (px, pk) = kw := ⟨_, rfl⟩
  have hkl : kw < fn := by rw [← hkw, h.hn]; exact sNo_lt (p := (px, pk)) ⟨hpx, by rw [← h.hn]; exact hpk⟩
  have hmf := h.mf pk px hpk hpx
  have HK1 : Hid (mem (F pk) px = true → (pk + 1) % fn = kw) := hid (fun hm => by
    rw [hm] at hmf
    by_cases e : A.K = 0
    · have h1 : fn = 1 := by rw [h.hn, if_pos e]
      rw [← hkw, h1, Nat.mod_one]
      unfold sNo
      rw [if_neg (by rw [e]; omega)]
      show 0 = pk
      omega
    · have h1 : fn = A.K := by rw [h.hn, if_neg e]
      have h2 : aFr A pk px = true := by simpa [e] using hmf.symm
      rw [← hkw, h1]
      unfold sNo
      rw [if_pos ⟨by omega, h2⟩]
      show _ = if pk + 1 = A.K then 0 else pk + 1
      by_cases e2 : pk + 1 = A.K
      · rw [if_pos e2, e2, Nat.mod_self]
      · rw [if_neg e2, Nat.mod_eq_of_lt (by omega)])
  have HK2 : Hid (mem (F pk) px = false → pk = kw) := hid (fun hm => by
    rw [hm] at hmf
    have h2 : ¬ (0 < A.K ∧ aFr A pk px = true) := by
      rintro ⟨h3, h4⟩
      rw [h4] at hmf
      simp at hmf
    rw [← hkw]
    unfold sNo
    rw [if_neg h2])
  obtain ⟨W0, hW0, hb0, hs0, x0, x1⟩ := box2 u (.int .i64 (px : Nat)) (.int .i64 (pk : Nat)) 79
  have y1 := below_cell hb0 (Nat.le_refl _) hu.bf
  have CH := hid (has_any fb (pk * 32) (F pk) px W0.drew (by omega) (((Sm.refl W0).drew.ls (hu.ls.below' hb0)) pk hpk))
  have hS0 : (fun z : World => z.cell? ⟨Bf, 0, none⟩ = some (.slice (some ⟨fb, 0, none⟩) fn fc) ∧ z.cell? ⟨u.heap.size, 0, none⟩ = some (.int .i64 (px : Nat))) W0.drew := ⟨y1, x0⟩
  have C57 := hid (fun z => paired57' a (aNx A px).length c kw z)
  have HB0 := hid hb0
  have z2 := below_cell hb0 (Nat.le_refl _) y2
  have z3 := below_cell hb0 (Nat.le_refl _) y3
  have HFin : Hid (∀ u' : World, Below u.heap.size u u' → ∀ Bs Bk, u.heap.size ≤ Bs → u.heap.size ≤ Bk → u'.cell? ⟨Bs, 0, none⟩ = some (.slice a (aNx A px).length c) → u'.cell? ⟨Bk, 0, none⟩ = some (.int .i64 (kw : Nat)) → ∃ all, ItC u u' w.heap.size (.func (.func 84) #[] #[.pointer (some ⟨Bs, 0, none⟩), .pointer (some ⟨Bk, 0, none⟩)]) (sgX A (px, pk)) all) := hid (fun u' hb' Bs Bk g1 g2 g3 g4 => by
    have hwu : Below w.heap.size w u' := hb.trans (hb'.mono hb.size)
    refine ⟨((aNx A px).map fun x => (x, kw)).map mkPr, ?_⟩
    have hX : sgX A (px, pk) = (aNx A px).map fun x => (x, kw) := by rw [← hkw]; rfl
    rw [hX]
    refine itc_of (a := a) (c := c) (mb := mb) (mo := mo) (fun x hx => by have := aNx_lt h.ok hpx hx; omega) (aNx_len h.ok px) (by omega) ha (fun i hi => ?_) (fun hl => ?_) (Or.inr g1) (Or.inr g2) g3 g4
    · have := hc i hi
      simp only [cs_at] at this
      exact below_cell hwu (Nat.le_refl _) this
    · have := World.block_lt_of_cell? _ _ (hc 0 hl)
      exact ⟨Nat.lt_of_lt_of_le this hwu.size, Or.inl this⟩)
  clear hmf hc ha r1 r2 hv hu h hb y2 y3 hkw hb0
  go_enter Tryd.func58, Tryd.ntmps58
  go_wp2_with fail
  refine G_region (fun z : World => z.cell? ⟨Bf, 0, none⟩ = some (.slice (some ⟨fb, 0, none⟩) fn fc) ∧ z.cell? ⟨u.heap.size, 0, none⟩ = some (.int .i64 (px : Nat))) (fun _ => false) (by kernel_rfl) hS0 (fun _ => ?_)
  refine G_take (i := 0) (oi := { dst := some 8, op := Op.load 47 (Operand.tmp 1), type := 47, pos := _, after := #[], guard := none }) (v := .slice (some ⟨fb, 0, none⟩) fn fc) rfl (by kernel_rfl) (by kernel_rfl) (by kernel_rfl) (by kernel_rfl) (fun _ _ _ h => h) (by rfl) (fun u hu => ?_) hS0 ?_
  · (try dsimp only at hu); go_simp
  (try simp only [Act.put, List.setIfInBounds_toArray, List.set_cons_zero, List.set_cons_succ])
  refine G_take (i := 1) (oi := { dst := some 9, op := Op.move (Operand.tmp 5), type := 3, pos := _, after := #[], guard := none }) (v := .int .i64 (pk : Nat)) rfl (by kernel_rfl) (by kernel_rfl) (by kernel_rfl) (by kernel_rfl) (fun _ _ _ h => h) (by rfl) (fun u hu => ?_) hS0 ?_
  · (try dsimp only at hu); go_simp
  (try simp only [Act.put, List.setIfInBounds_toArray, List.set_cons_zero, List.set_cons_succ])
  refine G_take (i := 2) (oi := { dst := some 10, op := Op.indexAddr 47 (Operand.tmp 8) (Operand.tmp 9), type := 0, pos := _, after := #[{ on := 0, ground := Ground.data }, { on := 1, ground := Ground.data }], guard := none }) (v := .pointer (some ⟨fb, pk * 32, none⟩)) rfl (by kernel_rfl) (by kernel_rfl) (by kernel_rfl) (by kernel_rfl) (fun _ _ _ h => h) (by rfl) (fun u hu => ?_) hS0 ?_
  · (try dsimp only at hu); go_simp
  (try simp only [Act.put, List.setIfInBounds_toArray, List.set_cons_zero, List.set_cons_succ])
  refine G_take (i := 3) (oi := { dst := some 11, op := Op.fieldAddr 79 (Operand.tmp 3) 0, type := 0, pos := _, after := #[], guard := none }) (v := .pointer (some ⟨u.heap.size, 0, none⟩)) rfl (by kernel_rfl) (by kernel_rfl) (by kernel_rfl) (by kernel_rfl) (fun _ _ _ h => h) (by rfl) (fun u hu => ?_) hS0 ?_
  · (try dsimp only at hu); go_simp
  (try simp only [Act.put, List.setIfInBounds_toArray, List.set_cons_zero, List.set_cons_succ])
  refine G_take (i := 4) (oi := { dst := some 12, op := Op.load 3 (Operand.tmp 11), type := 3, pos := _, after := #[{ on := 3, ground := Ground.data }], guard := none }) (v := .int .i64 (px : Nat)) rfl (by kernel_rfl) (by kernel_rfl) (by kernel_rfl) (by kernel_rfl) (fun _ _ _ h => h) (by rfl) (fun u hu => ?_) hS0 ?_
  · (try dsimp only at hu); go_simp
  (try simp only [Act.put, List.setIfInBounds_toArray, List.set_cons_zero, List.set_cons_succ])
  refine G_step (i := 5) (o := { dst := some 13, op := Op.call { callee := Callee.value (Operand.func 45), args := #[Operand.tmp 10, Operand.tmp 12], argTypes := #[53, 3] }, type := 4, pos := _, after := #[{ on := 2, ground := Ground.data }, { on := 4, ground := Ground.data }], guard := none }) (by kernel_rfl) rfl (fun K' hK => ?_)
  go_simp
  refine CH.out.mono ?_
  rintro e z1 ⟨rfl, rfl⟩
  dsimp only
  refine hK.out _ _ (fun _ => hS0) (fun _ => ?_)
  (try simp only [Act.put, List.setIfInBounds_toArray, List.set_cons_zero, List.set_cons_succ])
  refine G_done (by kernel_rfl) ?_ _
  dsimp only [Exit.then]
  cases hm : mem (F pk) px
  · obtain rfl := HK2.out hm
    clear HK1 HK2 hm CH
    go_wp2_with fail
    refine (C57.out _).mono ?_
    rintro e z ⟨Bs, Bk, rfl, HZ⟩
    go_wp2
    go_ret
    obtain ⟨g1, g2, g3, g4, g5⟩ := HZ.out
    have hbz := HB0.out.drew.trans (g3.mono (show u.heap.size ≤ W0.drew.heap.size from HB0.out.size))
    obtain ⟨all, hI⟩ := HFin.out _ hbz Bs Bk (Nat.le_trans HB0.out.size g1) (Nat.le_trans HB0.out.size g2) g4 g5
    exact ⟨_, all, rfl, hbz, hI⟩
  · have hkk : (((pk : Nat) : Int) + 1) % ((fn : Nat) : Int) = ((kw : Nat) : Int) := by rw [← HK1.out hm]; simp
    clear HK1 HK2 hm CH
    have hfn0 : ¬ fn = 0 := by omega
    go_wp2_with fail
    refine (C57.out _).mono ?_
    rintro e z ⟨Bs, Bk, rfl, HZ⟩
    go_wp2
    go_ret
    obtain ⟨g1, g2, g3, g4, g5⟩ := HZ.out
    have hbz := HB0.out.drew.trans (g3.mono (show u.heap.size ≤ W0.drew.heap.size from HB0.out.size))
    obtain ⟨all, hI⟩ := HFin.out _ hbz Bs Bk (Nat.le_trans HB0.out.size g1) (Nat.le_trans HB0.out.size g2) g4 g5
    exact ⟨_, all, rfl, hbz, hI⟩

set_option maxRecDepth 100000 in
set_option maxHeartbeats 2000000 in
theorem sgx59 (A : Ax) (Bf Bn fb fn fc nb nc : Nat) (F : Nat → Nat → Nat) (V : Nat → Value) (p : Nat × Nat) (w u : World) (h : Sgm A Bf Bn fb fn fc nb nc F V w) (hb : Below w.heap.size w u) (hp : sgP A p) :
    Calls Tryd.prog 59 #[.agg #[.int .i64 ((p.1 : Nat) : Int), .int .i64 ((p.2 : Nat) : Int)], .pointer (some ⟨Bf, 0, none⟩)] u fun e u' => e = .returned (.bool (sgF A p)) ∧ Below u.heap.size u u' := by
  have hu := h.below hb
  obtain ⟨hG, hK80, _⟩ := chkA_ok h.ok
  obtain ⟨px, pk⟩ := p
  obtain ⟨hpx, hpk⟩ := hp
  dsimp only at hpx hpk ⊢
  rw [← h.hn] at hpk
  have HF : Hid (sgF A (px, pk) = (decide (pk = 0) && mem (F 0) px)) := hid (by rw [h.mf 0 px (by omega) hpx]; rfl)
  obtain ⟨W0, hW0, hb0, hs0, x0, x1⟩ := box2 u (.int .i64 (px : Nat)) (.int .i64 (pk : Nat)) 79
  have y1 := below_cell hb0 (Nat.le_refl _) hu.bf
  have hl0 : St W0.drew fb 0 (F 0) := by have := ((Sm.refl W0).drew.ls (hu.ls.below' hb0)) 0 (by omega); rwa [Nat.zero_mul] at this
  have hfn0 : ¬ fn = 0 := by omega
  have CH := hid (has_any fb 0 (F 0) px W0.drew (by omega) hl0)
  have hS0 : (fun z : World => z.cell? ⟨Bf, 0, none⟩ = some (.slice (some ⟨fb, 0, none⟩) fn fc) ∧ z.cell? ⟨u.heap.size, 0, none⟩ = some (.int .i64 (px : Nat)) ∧ z.cell? ⟨u.heap.size, 1, none⟩ = some (.int .i64 (pk : Nat))) W0.drew := ⟨y1, x0, x1⟩
  have HB0 := hid hb0
  clear hu h hb hb0 hl0
  by_cases hq : pk = 0
  · have hq2 : (((pk : Nat) : Int) == 0) = true := by rw [hq]; rfl
    have HQ := hid hq
    clear hq
    go_enter Tryd.func59, Tryd.ntmps59
    go_wp2_with fail
    refine G_region (fun z : World => z.cell? ⟨Bf, 0, none⟩ = some (.slice (some ⟨fb, 0, none⟩) fn fc) ∧ z.cell? ⟨u.heap.size, 0, none⟩ = some (.int .i64 (px : Nat)) ∧ z.cell? ⟨u.heap.size, 1, none⟩ = some (.int .i64 (pk : Nat))) (fun _ => false) (by kernel_rfl) hS0 (fun _ => ?_)
    refine G_take (i := 0) (oi := { dst := some 4, op := Op.fieldAddr 79 (Operand.tmp 2) 1, type := 0, pos := _, after := #[], guard := none }) (v := .pointer (some ⟨u.heap.size, 1, none⟩)) rfl (by kernel_rfl) (by kernel_rfl) (by kernel_rfl) (by kernel_rfl) (fun _ _ _ h => h) (by rfl) (fun u hu => ?_) hS0 ?_
    · (try dsimp only at hu); go_simp
    (try simp only [Act.put, List.setIfInBounds_toArray, List.set_cons_zero, List.set_cons_succ])
    refine G_take (i := 1) (oi := { dst := some 5, op := Op.load 3 (Operand.tmp 4), type := 3, pos := _, after := #[{ on := 0, ground := Ground.data }], guard := none }) (v := .int .i64 (pk : Nat)) rfl (by kernel_rfl) (by kernel_rfl) (by kernel_rfl) (by kernel_rfl) (fun _ _ _ h => h) (by rfl) (fun u hu => ?_) hS0 ?_
    · (try dsimp only at hu); go_simp
    (try simp only [Act.put, List.setIfInBounds_toArray, List.set_cons_zero, List.set_cons_succ])
    refine G_take (i := 2) (oi := { dst := some 6, op := Op.binOp BinOp.eql 3 (Operand.tmp 5) (Operand.const (Value.int IntKind.i64 0)) 3, type := 4, pos := _, after := #[{ on := 1, ground := Ground.data }], guard := none }) (v := .bool true) rfl (by kernel_rfl) (by kernel_rfl) (by kernel_rfl) (by kernel_rfl) (fun _ _ _ h => h) (by rfl) (fun u hu => ?_) hS0 ?_
    · (try dsimp only at hu); go_simp
    (try simp only [Act.put, List.setIfInBounds_toArray, List.set_cons_zero, List.set_cons_succ])
    refine G_take (i := 3) (oi := { dst := some 7, op := Op.move (Operand.tmp 6), type := 4, pos := _, after := #[{ on := 2, ground := Ground.data }], guard := none }) (v := .bool true) rfl (by kernel_rfl) (by kernel_rfl) (by kernel_rfl) (by kernel_rfl) (fun _ _ _ h => h) (by rfl) (fun u hu => ?_) hS0 ?_
    · (try dsimp only at hu); go_simp
    (try simp only [Act.put, List.setIfInBounds_toArray, List.set_cons_zero, List.set_cons_succ])
    refine G_take (i := 4) (oi := { dst := some 8, op := Op.load 47 (Operand.tmp 1), type := 47, pos := _, after := #[{ on := 3, ground := Ground.guard }], guard := some (3, true) }) (v := .slice (some ⟨fb, 0, none⟩) fn fc) rfl (by kernel_rfl) (by kernel_rfl) (by kernel_rfl) (by kernel_rfl) (fun _ _ _ h => h) (by rfl) (fun u hu => ?_) hS0 ?_
    · (try dsimp only at hu); go_simp
    (try simp only [Act.put, List.setIfInBounds_toArray, List.set_cons_zero, List.set_cons_succ])
    refine G_take (i := 5) (oi := { dst := some 9, op := Op.indexAddr 47 (Operand.tmp 8) (Operand.const (Value.int IntKind.i64 0)), type := 0, pos := _, after := #[{ on := 4, ground := Ground.data }, { on := 3, ground := Ground.guard }], guard := some (3, true) }) (v := .pointer (some ⟨fb, 0, none⟩)) rfl (by kernel_rfl) (by kernel_rfl) (by kernel_rfl) (by kernel_rfl) (fun _ _ _ h => h) (by rfl) (fun u hu => ?_) hS0 ?_
    · (try dsimp only at hu); go_simp
    (try simp only [Act.put, List.setIfInBounds_toArray, List.set_cons_zero, List.set_cons_succ])
    refine G_take (i := 6) (oi := { dst := some 10, op := Op.fieldAddr 79 (Operand.tmp 2) 0, type := 0, pos := _, after := #[{ on := 3, ground := Ground.guard }], guard := some (3, true) }) (v := .pointer (some ⟨u.heap.size, 0, none⟩)) rfl (by kernel_rfl) (by kernel_rfl) (by kernel_rfl) (by kernel_rfl) (fun _ _ _ h => h) (by rfl) (fun u hu => ?_) hS0 ?_
    · (try dsimp only at hu); go_simp
    (try simp only [Act.put, List.setIfInBounds_toArray, List.set_cons_zero, List.set_cons_succ])
    refine G_take (i := 7) (oi := { dst := some 11, op := Op.load 3 (Operand.tmp 10), type := 3, pos := _, after := #[{ on := 6, ground := Ground.data }, { on := 3, ground := Ground.guard }], guard := some (3, true) }) (v := .int .i64 (px : Nat)) rfl (by kernel_rfl) (by kernel_rfl) (by kernel_rfl) (by kernel_rfl) (fun _ _ _ h => h) (by rfl) (fun u hu => ?_) hS0 ?_
    · (try dsimp only at hu); go_simp
    (try simp only [Act.put, List.setIfInBounds_toArray, List.set_cons_zero, List.set_cons_succ])
    refine G_step (i := 8) (o := { dst := some 12, op := Op.call { callee := Callee.value (Operand.func 45), args := #[Operand.tmp 9, Operand.tmp 11], argTypes := #[53, 3] }, type := 4, pos := _, after := #[{ on := 5, ground := Ground.data }, { on := 7, ground := Ground.data }, { on := 3, ground := Ground.chain }, { on := 3, ground := Ground.guard }], guard := some (3, true) }) (by kernel_rfl) rfl (fun K' hK => ?_)
    go_simp
    refine CH.out.mono ?_
    rintro e z1 ⟨rfl, rfl⟩
    dsimp only
    refine hK.out _ _ (fun _ => hS0) (fun _ => ?_)
    (try simp only [Act.put, List.setIfInBounds_toArray, List.set_cons_zero, List.set_cons_succ])
    refine G_take (i := 9) (oi := { dst := some 13, op := Op.pick (Operand.tmp 7) (Operand.tmp 12) (Operand.const (Value.bool false)), type := 4, pos := _, after := #[{ on := 3, ground := Ground.data }, { on := 8, ground := Ground.data }], guard := none }) (v := .bool (mem (F 0) px)) rfl (by kernel_rfl) (by kernel_rfl) (by kernel_rfl) (by kernel_rfl) (fun _ _ _ h => h) (by rfl) (fun u hu => ?_) hS0 ?_
    · (try dsimp only at hu); go_simp
    (try simp only [Act.put, List.setIfInBounds_toArray, List.set_cons_zero, List.set_cons_succ])
    refine G_take (i := 10) (oi := { dst := some 3, op := Op.assign (Operand.tmp 13), type := 4, pos := _, after := #[{ on := 9, ground := Ground.data }, { on := 8, ground := Ground.chain }, { on := 0, ground := Ground.phase }, { on := 1, ground := Ground.phase }, { on := 2, ground := Ground.phase }, { on := 3, ground := Ground.phase }, { on := 4, ground := Ground.phase }, { on := 5, ground := Ground.phase }, { on := 6, ground := Ground.phase }, { on := 7, ground := Ground.phase }, { on := 8, ground := Ground.phase }, { on := 9, ground := Ground.phase }], guard := none }) (v := .bool (mem (F 0) px)) rfl (by kernel_rfl) (by kernel_rfl) (by kernel_rfl) (by kernel_rfl) (fun _ _ _ h => h) (by rfl) (fun u hu => ?_) hS0 ?_
    · (try dsimp only at hu); go_simp
    (try simp only [Act.put, List.setIfInBounds_toArray, List.set_cons_zero, List.set_cons_succ])
    refine G_done (by kernel_rfl) ?_ _
    dsimp only [Exit.then]
    go_wp2
    go_ret
    exact ⟨ret_bool (by rw [HF.out, HQ.out]; simp), HB0.out.drew⟩
  · have hq2 : (((pk : Nat) : Int) == 0) = false := beq_eq_false_iff_ne.2 (by omega)
    have HQ := hid hq
    clear hq
    go_enter Tryd.func59, Tryd.ntmps59
    go_wp2_with fail
    refine G_region (fun z : World => z.cell? ⟨Bf, 0, none⟩ = some (.slice (some ⟨fb, 0, none⟩) fn fc) ∧ z.cell? ⟨u.heap.size, 0, none⟩ = some (.int .i64 (px : Nat)) ∧ z.cell? ⟨u.heap.size, 1, none⟩ = some (.int .i64 (pk : Nat))) (fun _ => false) (by kernel_rfl) hS0 (fun _ => ?_)
    refine G_take (i := 0) (oi := { dst := some 4, op := Op.fieldAddr 79 (Operand.tmp 2) 1, type := 0, pos := _, after := #[], guard := none }) (v := .pointer (some ⟨u.heap.size, 1, none⟩)) rfl (by kernel_rfl) (by kernel_rfl) (by kernel_rfl) (by kernel_rfl) (fun _ _ _ h => h) (by rfl) (fun u hu => ?_) hS0 ?_
    · (try dsimp only at hu); go_simp
    (try simp only [Act.put, List.setIfInBounds_toArray, List.set_cons_zero, List.set_cons_succ])
    refine G_take (i := 1) (oi := { dst := some 5, op := Op.load 3 (Operand.tmp 4), type := 3, pos := _, after := #[{ on := 0, ground := Ground.data }], guard := none }) (v := .int .i64 (pk : Nat)) rfl (by kernel_rfl) (by kernel_rfl) (by kernel_rfl) (by kernel_rfl) (fun _ _ _ h => h) (by rfl) (fun u hu => ?_) hS0 ?_
    · (try dsimp only at hu); go_simp
    (try simp only [Act.put, List.setIfInBounds_toArray, List.set_cons_zero, List.set_cons_succ])
    refine G_take (i := 2) (oi := { dst := some 6, op := Op.binOp BinOp.eql 3 (Operand.tmp 5) (Operand.const (Value.int IntKind.i64 0)) 3, type := 4, pos := _, after := #[{ on := 1, ground := Ground.data }], guard := none }) (v := .bool false) rfl (by kernel_rfl) (by kernel_rfl) (by kernel_rfl) (by kernel_rfl) (fun _ _ _ h => h) (by rfl) (fun u hu => ?_) hS0 ?_
    · (try dsimp only at hu); go_simp
    (try simp only [Act.put, List.setIfInBounds_toArray, List.set_cons_zero, List.set_cons_succ])
    refine G_take (i := 3) (oi := { dst := some 7, op := Op.move (Operand.tmp 6), type := 4, pos := _, after := #[{ on := 2, ground := Ground.data }], guard := none }) (v := .bool false) rfl (by kernel_rfl) (by kernel_rfl) (by kernel_rfl) (by kernel_rfl) (fun _ _ _ h => h) (by rfl) (fun u hu => ?_) hS0 ?_
    · (try dsimp only at hu); go_simp
    (try simp only [Act.put, List.setIfInBounds_toArray, List.set_cons_zero, List.set_cons_succ])
    refine G_skip (i := 4) (oi := { dst := some 8, op := Op.load 47 (Operand.tmp 1), type := 47, pos := _, after := #[{ on := 3, ground := Ground.guard }], guard := some (3, true) }) rfl (by kernel_rfl) (by kernel_rfl) (by kernel_rfl) (by kernel_rfl) (fun _ _ _ h => h) (by rfl) hS0 ?_
    (try simp only [Act.put, List.setIfInBounds_toArray, List.set_cons_zero, List.set_cons_succ])
    refine G_skip (i := 5) (oi := { dst := some 9, op := Op.indexAddr 47 (Operand.tmp 8) (Operand.const (Value.int IntKind.i64 0)), type := 0, pos := _, after := #[{ on := 4, ground := Ground.data }, { on := 3, ground := Ground.guard }], guard := some (3, true) }) rfl (by kernel_rfl) (by kernel_rfl) (by kernel_rfl) (by kernel_rfl) (fun _ _ _ h => h) (by rfl) hS0 ?_
    (try simp only [Act.put, List.setIfInBounds_toArray, List.set_cons_zero, List.set_cons_succ])
    refine G_skip (i := 6) (oi := { dst := some 10, op := Op.fieldAddr 79 (Operand.tmp 2) 0, type := 0, pos := _, after := #[{ on := 3, ground := Ground.guard }], guard := some (3, true) }) rfl (by kernel_rfl) (by kernel_rfl) (by kernel_rfl) (by kernel_rfl) (fun _ _ _ h => h) (by rfl) hS0 ?_
    (try simp only [Act.put, List.setIfInBounds_toArray, List.set_cons_zero, List.set_cons_succ])
    refine G_skip (i := 7) (oi := { dst := some 11, op := Op.load 3 (Operand.tmp 10), type := 3, pos := _, after := #[{ on := 6, ground := Ground.data }, { on := 3, ground := Ground.guard }], guard := some (3, true) }) rfl (by kernel_rfl) (by kernel_rfl) (by kernel_rfl) (by kernel_rfl) (fun _ _ _ h => h) (by rfl) hS0 ?_
    (try simp only [Act.put, List.setIfInBounds_toArray, List.set_cons_zero, List.set_cons_succ])
    refine G_skip (i := 8) (oi := { dst := some 12, op := Op.call { callee := Callee.value (Operand.func 45), args := #[Operand.tmp 9, Operand.tmp 11], argTypes := #[53, 3] }, type := 4, pos := _, after := #[{ on := 5, ground := Ground.data }, { on := 7, ground := Ground.data }, { on := 3, ground := Ground.chain }, { on := 3, ground := Ground.guard }], guard := some (3, true) }) rfl (by kernel_rfl) (by kernel_rfl) (by kernel_rfl) (by kernel_rfl) (fun _ _ _ h => h) (by rfl) hS0 ?_
    (try simp only [Act.put, List.setIfInBounds_toArray, List.set_cons_zero, List.set_cons_succ])
    refine G_take (i := 9) (oi := { dst := some 13, op := Op.pick (Operand.tmp 7) (Operand.tmp 12) (Operand.const (Value.bool false)), type := 4, pos := _, after := #[{ on := 3, ground := Ground.data }, { on := 8, ground := Ground.data }], guard := none }) (v := .bool false) rfl (by kernel_rfl) (by kernel_rfl) (by kernel_rfl) (by kernel_rfl) (fun _ _ _ h => h) (by rfl) (fun u hu => ?_) hS0 ?_
    · (try dsimp only at hu); go_simp
    (try simp only [Act.put, List.setIfInBounds_toArray, List.set_cons_zero, List.set_cons_succ])
    refine G_take (i := 10) (oi := { dst := some 3, op := Op.assign (Operand.tmp 13), type := 4, pos := _, after := #[{ on := 9, ground := Ground.data }, { on := 8, ground := Ground.chain }, { on := 0, ground := Ground.phase }, { on := 1, ground := Ground.phase }, { on := 2, ground := Ground.phase }, { on := 3, ground := Ground.phase }, { on := 4, ground := Ground.phase }, { on := 5, ground := Ground.phase }, { on := 6, ground := Ground.phase }, { on := 7, ground := Ground.phase }, { on := 8, ground := Ground.phase }, { on := 9, ground := Ground.phase }], guard := none }) (v := .bool false) rfl (by kernel_rfl) (by kernel_rfl) (by kernel_rfl) (by kernel_rfl) (fun _ _ _ h => h) (by rfl) (fun u hu => ?_) hS0 ?_
    · (try dsimp only at hu); go_simp
    (try simp only [Act.put, List.setIfInBounds_toArray, List.set_cons_zero, List.set_cons_succ])
    refine G_done (by kernel_rfl) ?_ _
    dsimp only [Exit.then]
    go_wp2
    go_ret
    exact ⟨ret_bool (by rw [HF.out]; simp [HQ.out]), HB0.out.drew⟩

set_option maxRecDepth 100000 in
set_option maxHeartbeats 2000000 in
theorem where59 (pa : Option Addr) (k pc : Nat) (q : Nat → Nat × Nat) (P : Nat → Bool) (c1 : Value) (w : World) (hk : k ≤ 2048) (hp : Sp w pa k q)
    (hcl : ∀ i, i < k → ∀ u, Below w.heap.size w u → Calls Tryd.prog 59 #[.agg #[.int .i64 (((q i).1 : Nat) : Int), .int .i64 (((q i).2 : Nat) : Int)], c1] u fun e u' => e = .returned (.bool (P i)) ∧ Below u.heap.size u u') :
    Calls Tryd.prog 43 #[.slice pa k pc, .func (.func 59) #[] #[c1]] w fun e w' => ∃ v, e = .returned v ∧ w'.ownsRow w.heap.size 3 1 v (cs (whN P k)).length (vals (cs (whN P k))) ∧ Below w.heap.size w w' := by
  obtain ⟨b, ha, hc⟩ := hp
  have HC := hid hc
  have HCL := hid hcl
  clear hc hcl
  obtain ⟨i0, hi, hz0, hz1, hz2⟩ := info_parts Tryd.info3
  have HI : Hid (Tryd.prog.info? 3 = some i0 ∧ i0.zero = some (.int .i64 0) ∧ i0.size = 1 ∧ i0.bytes = 8) := ⟨hi, hz0, hz1, hz2⟩
  clear hi hz0 hz1 hz2
  go_enter Tryd.func43, Tryd.ntmps43
  go_wp2
  go_loopw [5, 10] (fun v i wr => ∃ j : Nat, j ≤ k ∧ i = .int .i64 j ∧ Hid (Below w.heap.size w wr ∧ wr.ownsRow w.heap.size 3 1 v (cs (whN P j)).length (vals (cs (whN P j))))) (fun _ i _ => k - (intOf i).toNat)
  case atStart => exact ⟨0, by omega, rfl, hid ⟨Below.refl _ _, World.ownsRow_nil _ _ _ _⟩⟩
  case round =>
    rename_i v _
    obtain ⟨j, hj, rfl, H⟩ := hrel
    by_cases hlt : j < k
    · obtain rfl := ha (by omega)
      obtain ⟨c1, c2⟩ := HC.out j hlt
      have h1 := below_cell H.out.1 (Nat.le_refl _) c1
      have h2 := below_cell H.out.1 (Nat.le_refl _) c2
      have HCj := HCL.out j hlt
      have hw0 := whN_succ P j
      generalize hqj : q j = qj at *
      obtain ⟨x, y⟩ := qj
      dsimp only at h1 h2 HCj
      clear c1 c2 hqj
      have hbx := box_below wr (.cells #[.int .i64 (x : Nat), .int .i64 (y : Nat)] 79)
      have hsx : (wr.alloc (.cells #[.int .i64 (x : Nat), .int .i64 (y : Nat)] 79)).heap.size = wr.heap.size + 1 := by simp
      have C1 := hid (HCj _ (H.out.1.trans (hbx.mono H.out.1.size)))
      have HBX := hid (And.intro hbx hsx)
      have hlen : (cs (whN P j)).length ≤ 2048 := by rw [cs_len]; have := whN_len P j; omega
      have HWt : Hid (P j = true → whN P (j + 1) = whN P j ++ [j]) := hid (fun h => by rw [hw0, if_pos h])
      have HWf : Hid (P j = false → whN P (j + 1) = whN P j) := hid (fun h => by rw [hw0, if_neg (by rw [h]; simp)])
      have hwl := H.out.1.size
      clear hbx hsx HCj hw0
      go_wp2_with fail
      refine C1.out.mono ?_
      rintro e w1 ⟨rfl, hb1⟩
      have HB1 := hid (HBX.out.1.trans (hb1.mono HBX.out.1.size))
      have hs1 : wr.heap.size ≤ w1.heap.size := HB1.out.size
      clear hb1 h1 h2 C1
      cases hP : P j
      · have HW := hid (HWf.out hP)
        clear hP
        go_wp2
        go_roundw
        case rel => exact ⟨j + 1, by omega, by go_num, hid ⟨H.out.1.trans (HB1.out.mono H.out.1.size), by rw [HW.out]; exact owns_below H.out.2 HB1.out⟩⟩
        case measure => simp [intOf]; omega
      · have HW := hid (HWt.out hP)
        clear hP
        have HO := hid (owns_below H.out.2 HB1.out)
        have HBB := hid (H.out.1.trans (HB1.out.mono H.out.1.size))
        have hsz : w.heap.size ≤ w1.heap.size := by omega
        go_wp2_with (at_builtin; refine wpList_append_own_at _ rfl _ _ 22 rfl w.heap.size 3 i0 (.int .i64 0) 1 8 Tryd.underlying22 HI.out.1 HI.out.2.1 HI.out.2.2.1 HI.out.2.2.2 rfl (by decide) _ _ _ rfl (HO.out.alloc _) ⟨w1.heap.size, 0, none⟩ 1 1 [.int .i64 (j : Int)] rfl rfl (cell_one_new _ _ _) (ints_oneCell .i64 [(j : Int)]) (by unfold maxLen; omega) (by omega) (by simp; omega) ?_; intro v' w3 hown' hgrow hnil hloc; have G := hid (ints_grow HBB.out (Nat.le_refl _) HO.out hown' hgrow); clear hown' hgrow hnil hloc)
        go_roundw
        case rel => exact ⟨j + 1, by omega, by go_num, hid ⟨G.out.1, by rw [HW.out, cs_snoc]; exact G.out.2.1⟩⟩
        case measure => simp [intOf]; omega
    · go_wp2
      go_ret
      obtain rfl : j = k := by omega
      exact ⟨_, rfl, H.out.2, H.out.1⟩

end Go.Proofs.YtdncjikmknkkpaaDoor
