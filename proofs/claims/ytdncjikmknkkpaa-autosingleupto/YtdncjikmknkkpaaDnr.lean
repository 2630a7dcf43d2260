/- The document's numbers of pairs: numbered's own closure, walked. -/
import Derived.Test.YtdncjikmknkkpaaDnq
namespace Go.Proofs.Ytdncjikmknkkpaa
open Go.RowKit

theorem nAdds_len (xs : List (Nat × Nat)) : ∀ (P : List (Nat × Nat)), (nAdds P xs).length ≤ P.length + xs.length := by
  induction xs with
  | nil => intro P; simp [nAdds]
  | cons x xs ih =>
    intro P
    rw [nAdds_cons]
    have := ih (nAdd P x)
    have h2 : (nAdd P x).length ≤ P.length + 1 := by unfold nAdd; split <;> simp
    simp
    omega

/-- What numbered's closure answers. -/
def NuIs (w : World) (Bl : Nat) (pv0 : Value) (P0 xs : List (Nat × Nat)) (e : Ending) (w' : World) : Prop :=
  ∃ la lc pv, e = .returned (.slice la (nNums (nAdds P0 xs) xs).length lc) ∧ Hid (w'.heap[Bl]? = some (.cells #[pv] 58) ∧ w'.ownsRow 0 59 2 pv (nAdds P0 xs).length (pcells (nAdds P0 xs)) ∧
    w'.ownsRow w.heap.size 3 1 (.slice la (nNums (nAdds P0 xs) xs).length lc) (cs (nNums (nAdds P0 xs) xs)).length (vals (cs (nNums (nAdds P0 xs) xs))) ∧ Fr (fun b => b = Bl ∨ pv0.ownBlock = some b) w w' ∧ (pv.ownBlock = pv0.ownBlock ∨ ∀ b, pv.ownBlock = some b → w.heap.size ≤ b))

set_option maxRecDepth 100000 in
set_option maxHeartbeats 4000000 in
theorem nu1_any (a : Option Addr) (n c : Nat) (xs : List (Nat × Nat)) (Bl : Nat) (pv0 : Value) (P0 : List (Nat × Nat)) (w : World) (hn : n = xs.length) (hs : Sp w a n (nAt xs)) (hv : w.heap[Bl]? = some (.cells #[pv0] 58)) (ho : w.ownsRow 0 59 2 pv0 P0.length (pcells P0)) (hnd : P0.Nodup) (hsm : ∀ p ∈ P0, Sml p) (hsx : ∀ p ∈ xs, Sml p)
    (hap : ∀ p, a = some p → p.block ≠ Bl ∧ pv0.ownBlock ≠ some p.block) (hlen : P0.length + n ≤ 4398046511104) :
    Calls Try.prog 35 #[.slice a n c, .pointer (some ⟨Bl, 0, none⟩)] w fun e w' => NuIs w Bl pv0 P0 xs e w' := by
  obtain ⟨b, ha, hc⟩ := hs
  have HC := hid hc
  have HA := hid (And.intro hn (And.intro hnd (And.intro hsm (And.intro hsx hap))))
  have HLn := hid hlen
  have HBl : Hid (Bl < w.heap.size) := hid (Array.getElem?_eq_some_iff.1 hv).1
  have HU0 : Hid (Nu w Bl pv0 P0 xs 0 w pv0 (.slice none 0 0)) := hid ⟨hv, by simpa [nAdds] using ho, World.ownsRow_nil _ _ _ _, ⟨rfl, rfl, rfl, Nat.le_refl _, fun _ _ _ => rfl⟩, Or.inl rfl⟩
  obtain ⟨i5, hi, hz0, hz1, hz2⟩ := info_parts Try.info59
  have HJ : Hid (Try.prog.info? 59 = some i5 ∧ i5.zero = some (.agg #[.int .i64 0, .int .i64 0]) ∧ i5.size = 2 ∧ i5.bytes = 16) := ⟨hi, hz0, hz1, hz2⟩
  clear hi hz0 hz1 hz2
  obtain ⟨i0, hi, hz0, hz1, hz2⟩ := info_parts Try.info3
  have HI : Hid (Try.prog.info? 3 = some i0 ∧ i0.zero = some (.int .i64 0) ∧ i0.size = 1 ∧ i0.bytes = 8) := ⟨hi, hz0, hz1, hz2⟩
  clear hi hz0 hz1 hz2 hc hn hnd hsm hsx hap hlen hv ho
  go_enter Try.func35, Try.ntmps35
  go_wp2
  go_loopw [4, 5] (fun v i wr => ∃ (k : Nat) (pv : Value), k ≤ n ∧ i = .int .i64 k ∧ Hid (Nu w Bl pv0 P0 xs k wr pv v)) (fun _ i _ => n - (intOf i).toNat)
  case atStart => exact ⟨0, pv0, Nat.zero_le _, rfl, HU0⟩
  case round =>
    rename_i v _
    obtain ⟨k, pv, hk, rfl, HU⟩ := hrel
    clear HU0
    have hnl : (cs ((xs.take k).map fun p => ix p (nAdds P0 (xs.take k)))).length = k := by
      have h3 := HA.out.1
      rw [cs_len, List.length_map, List.length_take]
      omega
    obtain ⟨va, vc, hv, hsp⟩ := owns_pd HU.out.own
    obtain ⟨qn, hqn⟩ : ∃ qn, (nAdds P0 (xs.take k)).length = qn := ⟨_, rfl⟩
    rw [hqn] at hv hsp
    subst hv
    obtain ⟨la, lc, hl, hrow⟩ := owns_row HU.out.out
    rw [hnl] at hl hrow
    subst hl
    have HQN := hid hqn
    have HNL := hid hnl
    have hk4 : (nAdds P0 (xs.take k)).length ≤ 4398046511104 := by
      have h1 := nAdds_len (xs.take k) P0
      have h2 := HLn.out
      have h3 := HA.out.1
      rw [List.length_take] at h1
      omega
    rw [hqn] at hk4
    clear hqn hnl
    by_cases hlt : k < n
    · have hln := HLn.out
      obtain rfl := ha (by omega)
      obtain ⟨p, hp⟩ : ∃ p, nAt xs k = p := ⟨_, rfl⟩
      have hxk : xs[k]? = some p := by rw [← hp]; exact nAt_some (by have := HA.out.1; omega)
      obtain ⟨c0, c1⟩ := HC.out k hlt
      rw [hp] at c0 c1
      obtain ⟨px, py⟩ := p
      dsimp only at c0 c1
      have hapb := HA.out.2.2.2.2 _ rfl
      have hblk : wr.heap[b]? = w.heap[b]? := HU.out.fr.block b (World.block_lt_of_cell? _ _ c0) (fun hx => by
        rcases hx with h | h
        · exact hapb.1 h
        · exact hapb.2 h)
      have z0 : wr.cell? ⟨b, k * 2, none⟩ = _ := (World.cell?_of_block (w := w) (a := ⟨b, k * 2, none⟩) hblk).trans c0
      have z1' : wr.cell? ⟨b, k * 2 + 1, none⟩ = _ := (World.cell?_of_block (w := w) (a := ⟨b, k * 2 + 1, none⟩) hblk).trans c1
      have y0 : wr.cell? ⟨Bl, 0, none⟩ = some (.slice va qn vc) := cell_of_cells HU.out.var rfl
      have hS0 : (fun z : World => z.cell? ⟨Bl, 0, none⟩ = some (.slice va qn vc) ∧ z.cell? ⟨b, k * 2, none⟩ = some (.int .i64 (px : Nat)) ∧ z.cell? ⟨b, k * 2 + 1, none⟩ = some (.int .i64 (py : Nat))) wr.drew := ⟨y0, z0, z1'⟩
      have hsmQ : ∀ q ∈ nAdds P0 (xs.take k), Sml q := fun q hq => by
        rcases (mem_nAdds _ _).1 hq with h | h
        · exact HA.out.2.2.1 q h
        · exact HA.out.2.2.2.1 q (List.mem_of_mem_take h)
      have CI := hid (idxP va qn vc (nAdds P0 (xs.take k)) (px, py) wr.drew HQN.out.symm hk4 (nAdds_nodup _ HA.out.2.1) hsmQ (HA.out.2.2.2.1 _ (List.mem_of_getElem? hxk)) (hsp.below ((Sm.refl wr).drew.below _)))
      have HX := hid hxk
      have HAP : Hid ((Value.slice va qn vc).ownBlock ≠ some b) := hid (fun e => by
        rcases HU.out.loc with h | h
        · exact hapb.2 (by rw [← h]; exact e)
        · have h1 := h b e
          have h2 := World.block_lt_of_cell? _ _ c0
          dsimp only at h2
          omega)
      clear c0 c1 hblk hp hxk hapb hsmQ hsp hrow
      go_wp2_with fail
      refine G_region (fun z : World => z.cell? ⟨Bl, 0, none⟩ = some (.slice va qn vc) ∧ z.cell? ⟨b, k * 2, none⟩ = some (.int .i64 (px : Nat)) ∧ z.cell? ⟨b, k * 2 + 1, none⟩ = some (.int .i64 (py : Nat))) (fun _ => false) (by kernel_rfl) hS0 (fun _ => ?_)
      refine G_take (i := 0) (oi := { dst := some 13, op := Op.load 58 (Operand.tmp 1), type := 58, pos := _, after := #[], guard := none }) (v := .slice va qn vc) rfl (by kernel_rfl) (by kernel_rfl) (by kernel_rfl) (by kernel_rfl) (fun _ _ _ h => h) (by rfl) (fun u hu => ?_) hS0 ?_
      · (try dsimp only at hu); go_simp
      (try simp only [Act.put, List.setIfInBounds_toArray, List.set_cons_zero, List.set_cons_succ])
      refine G_take (i := 1) (oi := { dst := some 14, op := Op.move (Operand.tmp 0), type := 58, pos := _, after := #[], guard := none }) (v := .slice (some ⟨b, 0, none⟩) n c) rfl (by kernel_rfl) (by kernel_rfl) (by kernel_rfl) (by kernel_rfl) (fun _ _ _ h => h) (by rfl) (fun u hu => ?_) hS0 ?_
      · (try dsimp only at hu); go_simp
      (try simp only [Act.put, List.setIfInBounds_toArray, List.set_cons_zero, List.set_cons_succ])
      refine G_take (i := 2) (oi := { dst := some 15, op := Op.move (Operand.tmp 5), type := 3, pos := _, after := #[], guard := none }) (v := .int .i64 (k : Nat)) rfl (by kernel_rfl) (by kernel_rfl) (by kernel_rfl) (by kernel_rfl) (fun _ _ _ h => h) (by rfl) (fun u hu => ?_) hS0 ?_
      · (try dsimp only at hu); go_simp
      (try simp only [Act.put, List.setIfInBounds_toArray, List.set_cons_zero, List.set_cons_succ])
      refine G_take (i := 3) (oi := { dst := some 16, op := Op.indexAddr 58 (Operand.tmp 14) (Operand.tmp 15), type := 0, pos := _, after := #[{ on := 1, ground := Ground.data }, { on := 2, ground := Ground.data }], guard := none }) (v := .pointer (some ⟨b, k * 2, none⟩)) rfl (by kernel_rfl) (by kernel_rfl) (by kernel_rfl) (by kernel_rfl) (fun _ _ _ h => h) (by rfl) (fun u hu => ?_) hS0 ?_
      · (try dsimp only at hu); go_simp
      (try simp only [Act.put, List.setIfInBounds_toArray, List.set_cons_zero, List.set_cons_succ])
      refine G_take (i := 4) (oi := { dst := some 17, op := Op.load 59 (Operand.tmp 16), type := 59, pos := _, after := #[{ on := 3, ground := Ground.data }], guard := none }) (v := .agg #[.int .i64 (px : Nat), .int .i64 (py : Nat)]) rfl (by kernel_rfl) (by kernel_rfl) (by kernel_rfl) (by kernel_rfl) (fun _ _ _ h => h) (by rfl) (fun u hu => ?_) hS0 ?_
      · (try dsimp only at hu); go_simp
      (try simp only [Act.put, List.setIfInBounds_toArray, List.set_cons_zero, List.set_cons_succ])
      refine G_step (i := 5) (o := { dst := some 18, op := Op.call { callee := Callee.value (Operand.func 36), args := #[Operand.tmp 13, Operand.tmp 17], argTypes := #[58, 59] }, type := 3, pos := _, after := #[{ on := 0, ground := Ground.data }, { on := 4, ground := Ground.data }], guard := none }) (by kernel_rfl) rfl (fun K' hK => ?_)
      go_simp
      refine CI.out.mono ?_
      rintro e z1 ⟨⟨r, rfl, hr⟩, hbz⟩
      dsimp only
      have HN1 := hid (HU.out.below (((Sm.refl wr).drew.below _).trans hbz))
      have y1 : z1.cell? ⟨Bl, 0, none⟩ = some (.slice va qn vc) := cell_of_cells HN1.out.var rfl
      have hS1 : (fun z : World => z.cell? ⟨Bl, 0, none⟩ = some (.slice va qn vc) ∧ z.cell? ⟨b, k * 2, none⟩ = some (.int .i64 (px : Nat)) ∧ z.cell? ⟨b, k * 2 + 1, none⟩ = some (.int .i64 (py : Nat))) z1 := ⟨y1, below_cell hbz (Nat.le_refl _) hS0.2.1, below_cell hbz (Nat.le_refl _) hS0.2.2⟩
      have HR := hid hr
      have HZ := hid hS1
      clear hr hbz hS0 y0 z0 z1'
      refine hK.out _ _ (fun _ => hS1) (fun _ => ?_)
      (try simp only [Act.put, List.setIfInBounds_toArray, List.set_cons_zero, List.set_cons_succ])
      refine G_step (i := 6) (o := { dst := some 6, op := Op.assign (Operand.tmp 18), type := 3, pos := _, after := #[{ on := 5, ground := Ground.data }, { on := 5, ground := Ground.chain }, { on := 0, ground := Ground.phase }, { on := 1, ground := Ground.phase }, { on := 2, ground := Ground.phase }, { on := 3, ground := Ground.phase }, { on := 4, ground := Ground.phase }, { on := 5, ground := Ground.phase }], guard := none }) (by kernel_rfl) rfl (fun K' hK => ?_)
      go_simp
      refine hK.out _ _ (fun _ => hS1) (fun _ => ?_)
      (try simp only [Act.put, List.setIfInBounds_toArray, List.set_cons_zero, List.set_cons_succ])
      refine G_done (by kernel_rfl) ?_ _
      (try dsimp only [Exit.then])
      clear hS1 y1
      rcases HR.out with ⟨hm, hr⟩ | ⟨hm, rfl⟩
      · have e1 : nAdds P0 (xs.take (k + 1)) = nAdds P0 (xs.take k) := by rw [List.take_add_one, HX.out]; show nAdds P0 (xs.take k ++ [(px, py)]) = _; rw [nAdds_snoc, nAdd, if_pos hm]
        have HE := hid e1
        obtain ⟨m, hmx⟩ : ∃ m, ix (px, py) (nAdds P0 (xs.take k)) = m := ⟨_, rfl⟩
        rw [hmx] at hr
        subst hr
        have HMX := hid hmx
        have HO1 : Hid (z1.ownsRow w.heap.size 3 1 (.slice la k lc) k (vals (cs ((xs.take k).map fun p => ix p (nAdds P0 (xs.take k)))))) := hid (by have := HN1.out.out; rw [HNL.out] at this; exact this)
        have hg0 : ¬ ((m : Nat) : Int) < 0 := by omega
        have hzs : w.heap.size ≤ z1.heap.size := HN1.out.fr.size
        clear hm e1 hmx
        go_wp2_with (at_builtin; refine wpList_append_own_at _ rfl _ _ 22 rfl w.heap.size 3 i0 (.int .i64 0) 1 8 Try.underlying22 HI.out.1 HI.out.2.1 HI.out.2.2.1 HI.out.2.2.2 rfl (by decide) _ _ _ rfl (HO1.out.alloc _) ⟨z1.heap.size, 0, none⟩ 1 1 [.int .i64 ((m : Nat) : Int)] rfl rfl (cell_one_new _ _ _) (ints_oneCell .i64 [((m : Nat) : Int)]) (by unfold maxLen; omega) (by omega) (by simp; omega) ?_; intro v' w7 hown' hgrow hnil hloc; have G := hid (nu_num (k := k) (lv' := v') HX.out HN1.out.var (by rw [HE.out]; exact HN1.out.own) (by rw [HE.out]; exact HN1.out.out) HN1.out.fr HN1.out.loc (by rw [HE.out, HNL.out, HMX.out]; exact hown') hgrow); clear hown' hgrow hnil hloc)
        go_roundw
        case rel => exact ⟨k + 1, _, by omega, by go_num, G⟩
        case measure => simp [intOf]; omega
      · have HNEW := hid hm
        have HOW : Hid (z1.ownsRow 0 59 2 (.slice va qn vc) qn (pcells (nAdds P0 (xs.take k)))) := hid (by have := HN1.out.own; rw [HQN.out] at this; exact this)
        have y1 : z1.cell? ⟨Bl, 0, none⟩ = some (.slice va qn vc) := HZ.out.1
        have hS2 : (fun z : World => z.cell? ⟨Bl, 0, none⟩ = some (.slice va qn vc) ∧ z.cell? ⟨b, k * 2, none⟩ = some (.int .i64 (px : Nat)) ∧ z.cell? ⟨b, k * 2 + 1, none⟩ = some (.int .i64 (py : Nat))) z1.drew := HZ.out
        have hS3 : (fun z : World => z.cell? ⟨Bl, 0, none⟩ = some (.slice va qn vc) ∧ z.cell? ⟨b, k * 2, none⟩ = some (.int .i64 (px : Nat)) ∧ z.cell? ⟨b, k * 2 + 1, none⟩ = some (.int .i64 (py : Nat))) (z1.alloc (.cells #[.int .i64 (px : Nat), .int .i64 (py : Nat)] 59)).drew := ⟨cell_alloc1 _ HZ.out.1, cell_alloc1 _ HZ.out.2.1, cell_alloc1 _ HZ.out.2.2⟩
        have hUb : (z1.alloc (.cells #[.int .i64 (px : Nat), .int .i64 (py : Nat)] 59)).heap[z1.heap.size]? = some (.cells #[.int .i64 (px : Nat), .int .i64 (py : Nat)] 59) := Go.Deep.blk_alloc_new _ _
        clear hm
        go_wp2_with fail
        clear y1
        refine G_region (fun z : World => z.cell? ⟨Bl, 0, none⟩ = some (.slice va qn vc) ∧ z.cell? ⟨b, k * 2, none⟩ = some (.int .i64 (px : Nat)) ∧ z.cell? ⟨b, k * 2 + 1, none⟩ = some (.int .i64 (py : Nat))) (fun i => i == 7) (by kernel_rfl) hS2 (fun _ => ?_)
        refine G_take (i := 0) (oi := { dst := some 23, op := Op.load 58 (Operand.tmp 1), type := 58, pos := _, after := #[], guard := none }) (v := .slice va qn vc) rfl (by kernel_rfl) (by kernel_rfl) (by kernel_rfl) (by kernel_rfl) (fun _ _ _ h => h) (by rfl) (fun u hu => ?_) hS2 ?_
        · (try dsimp only at hu); go_simp
        (try simp only [Act.put, List.setIfInBounds_toArray, List.set_cons_zero, List.set_cons_succ])
        refine G_take (i := 1) (oi := { dst := some 24, op := Op.move (Operand.tmp 0), type := 58, pos := _, after := #[], guard := none }) (v := .slice (some ⟨b, 0, none⟩) n c) rfl (by kernel_rfl) (by kernel_rfl) (by kernel_rfl) (by kernel_rfl) (fun _ _ _ h => h) (by rfl) (fun u hu => ?_) hS2 ?_
        · (try dsimp only at hu); go_simp
        (try simp only [Act.put, List.setIfInBounds_toArray, List.set_cons_zero, List.set_cons_succ])
        refine G_take (i := 2) (oi := { dst := some 25, op := Op.move (Operand.tmp 5), type := 3, pos := _, after := #[], guard := none }) (v := .int .i64 (k : Nat)) rfl (by kernel_rfl) (by kernel_rfl) (by kernel_rfl) (by kernel_rfl) (fun _ _ _ h => h) (by rfl) (fun u hu => ?_) hS2 ?_
        · (try dsimp only at hu); go_simp
        (try simp only [Act.put, List.setIfInBounds_toArray, List.set_cons_zero, List.set_cons_succ])
        refine G_take (i := 3) (oi := { dst := some 26, op := Op.indexAddr 58 (Operand.tmp 24) (Operand.tmp 25), type := 0, pos := _, after := #[{ on := 1, ground := Ground.data }, { on := 2, ground := Ground.data }], guard := none }) (v := .pointer (some ⟨b, k * 2, none⟩)) rfl (by kernel_rfl) (by kernel_rfl) (by kernel_rfl) (by kernel_rfl) (fun _ _ _ h => h) (by rfl) (fun u hu => ?_) hS2 ?_
        · (try dsimp only at hu); go_simp
        (try simp only [Act.put, List.setIfInBounds_toArray, List.set_cons_zero, List.set_cons_succ])
        refine G_take (i := 4) (oi := { dst := some 27, op := Op.load 59 (Operand.tmp 26), type := 59, pos := _, after := #[{ on := 3, ground := Ground.data }], guard := none }) (v := .agg #[.int .i64 (px : Nat), .int .i64 (py : Nat)]) rfl (by kernel_rfl) (by kernel_rfl) (by kernel_rfl) (by kernel_rfl) (fun _ _ _ h => h) (by rfl) (fun u hu => ?_) hS2 ?_
        · (try dsimp only at hu); go_simp
        (try simp only [Act.put, List.setIfInBounds_toArray, List.set_cons_zero, List.set_cons_succ])
        refine G_step (i := 5) (o := { dst := some 28, op := Op.buildSlice 58 1 #[(0, Operand.tmp 27)], type := 58, pos := _, after := #[{ on := 4, ground := Ground.data }], guard := none }) (by kernel_rfl) rfl (fun K' hK => ?_)
        go_simp
        refine hK.out _ _ (fun _ => hS3) (fun _ => ?_)
        (try simp only [Act.put, List.setIfInBounds_toArray, List.set_cons_zero, List.set_cons_succ])
        refine G_step (i := 6) (o := { dst := some 29, op := Op.call { callee := Callee.builtin Builtin.append, args := #[Operand.tmp 23, Operand.tmp 28], argTypes := #[58, 58] }, type := 58, pos := _, after := #[{ on := 0, ground := Ground.data }, { on := 5, ground := Ground.data }], guard := none }) (by kernel_rfl) rfl (fun K' hK => ?_)
        refine step_append_lies _ (by rfl) _ _ _ (by rfl) 0 59 i5 _ 2 16 Try.underlying58 HJ.out.1 HJ.out.2.1 HJ.out.2.2.1 HJ.out.2.2.2 rfl (by omega) (.slice va qn vc) qn (pcells (nAdds P0 (xs.take k))) (by rfl) ((HOW.out.alloc _).drew) ⟨z1.heap.size, 0, none⟩ 1 1 [.int .i64 (px : Nat), .int .i64 (py : Nat)] (by rfl) (by rfl) (World.news_of_block (w := (z1.alloc (.cells #[.int .i64 (px : Nat), .int .i64 (py : Nat)] 59)).drew) (cs := #[.int .i64 (px : Nat), .int .i64 (py : Nat)]) (t := 59) (fr := (0, 0)) hUb) (by simp [Value.oneCell']) (by omega) (by unfold maxLen; omega) (by omega) (Nat.zero_le _) (z1.heap.size + 1) (by simp) ?_
        intro g cap w4 hown4 hgrow4 hat4 hlt4
        have hgr : (z1.alloc (.cells #[.int .i64 (px : Nat), .int .i64 (py : Nat)] 59)).grownBy w4 (Value.slice va qn vc).ownBlock := ⟨hgrow4.os, hgrow4.tape, hgrow4.output, hgrow4.size, hgrow4.block⟩
        obtain ⟨q1, q2, q3, HP⟩ := HN1.out.put (p := (px, py)) (pv' := .slice (some ⟨g, 0, none⟩) (qn + 1) cap) HX.out HNEW.out (by rw [HQN.out]; exact hown4) hgr (hat4.imp (fun e => by rw [e]; simp [Value.ownBlock]) (fun e => by rw [e]; simp [Value.ownBlock]))
        have hbne : (Value.slice va qn vc).ownBlock ≠ some b := HAP.out
        have s4 : (fun z : World => z.cell? ⟨Bl, 0, none⟩ = some (.slice va qn vc) ∧ z.cell? ⟨b, k * 2, none⟩ = some (.int .i64 (px : Nat)) ∧ z.cell? ⟨b, k * 2 + 1, none⟩ = some (.int .i64 (py : Nat))) w4 := ⟨q1, (World.cell?_of_block (w := z1) (a := ⟨b, k * 2, none⟩) (q3 b (World.block_lt_of_cell? _ _ HZ.out.2.1) hbne)).trans HZ.out.2.1, (World.cell?_of_block (w := z1) (a := ⟨b, k * 2 + 1, none⟩) (q3 b (World.block_lt_of_cell? _ _ HZ.out.2.1) hbne)).trans HZ.out.2.2⟩
        clear hown4 hgrow4 hgr hat4 hlt4 q3 hUb hS3 hbne
        refine hK.out _ _ (fun _ => s4) (fun _ => ?_)
        (try simp only [Act.put, List.setIfInBounds_toArray, List.set_cons_zero, List.set_cons_succ])
        refine G_step (i := 7) (o := { dst := none, op := Op.store 58 (Operand.tmp 1) (Operand.tmp 29), type := 0, pos := _, after := #[{ on := 6, ground := Ground.data }, { on := 6, ground := Ground.chain }, { on := 0, ground := Ground.phase }, { on := 1, ground := Ground.phase }, { on := 2, ground := Ground.phase }, { on := 3, ground := Ground.phase }, { on := 4, ground := Ground.phase }, { on := 5, ground := Ground.phase }, { on := 6, ground := Ground.phase }], guard := none }) (by kernel_rfl) rfl (fun K' hK => ?_)
        go_simp
        refine hK.out _ _ (fun h => absurd h (by decide)) (fun _ => ?_)
        (try simp only [Act.put, List.setIfInBounds_toArray, List.set_cons_zero, List.set_cons_succ])
        refine G_done (by kernel_rfl) ?_ _
        (try dsimp only [Exit.then])
        clear s4 q1 q2 hS2
        generalize w4.setCell ⟨Bl, 0, none⟩ (.slice (some ⟨g, 0, none⟩) (qn + 1) cap) = W5 at *
        have hix : ix (px, py) (nAdds P0 (xs.take (k + 1))) = qn := by
          rw [← HQN.out, List.take_add_one, HX.out]
          show ix (px, py) (nAdds P0 (xs.take k ++ [(px, py)])) = _
          rw [nAdds_snoc, nAdd, if_neg HNEW.out]
          exact ix_new HNEW.out
        have HIX := hid hix
        have hlk : (cs ((xs.take k).map fun p => ix p (nAdds P0 (xs.take (k + 1))))).length = k := by have := HNL.out; rw [cs_len, List.length_map] at this ⊢; exact this
        have HLE := hid hlk
        have h5s : w.heap.size ≤ W5.heap.size := HP.out.2.2.2.1.size
        have HO5 : Hid (W5.ownsRow w.heap.size 3 1 (.slice la k lc) k (vals (cs ((xs.take k).map fun p => ix p (nAdds P0 (xs.take (k + 1))))))) := hid (by have := HP.out.2.2.1; rw [HLE.out] at this; exact this)
        clear hix hlk
        go_wp2_with (at_builtin; refine wpList_append_own_at _ rfl _ _ 22 rfl w.heap.size 3 i0 (.int .i64 0) 1 8 Try.underlying22 HI.out.1 HI.out.2.1 HI.out.2.2.1 HI.out.2.2.2 rfl (by decide) _ _ _ rfl (HO5.out.alloc _) ⟨W5.heap.size, 0, none⟩ 1 1 [.int .i64 ((qn : Nat) : Int)] rfl rfl (cell_one_new _ _ _) (ints_oneCell .i64 [((qn : Nat) : Int)]) (by unfold maxLen; omega) (by omega) (by simp; omega) ?_; intro v' w7 hown' hgrow hnil hloc; have G := hid (nu_num (k := k) (lv' := v') HX.out HP.out.1 HP.out.2.1 HP.out.2.2.1 HP.out.2.2.2.1 HP.out.2.2.2.2 (by rw [HIX.out, HLE.out]; exact hown') hgrow); clear hown' hgrow hnil hloc)
        go_roundw
        case rel => exact ⟨k + 1, _, by omega, by go_num, G⟩
        case measure => simp [intOf]; omega
    · have HK : Hid (k = n) := hid (by omega)
      obtain ⟨zs, hzs⟩ : ∃ zs, (fun i => (cs ((xs.take k).map fun p => ix p (nAdds P0 (xs.take k)))).getD i 0) = zs := ⟨_, rfl⟩
      rw [hzs] at hrow
      have HZS := hid hzs
      clear hzs
      have C := hid (onceD la k lc zs wr (by have := HLn.out; omega) hrow (fun i _ => by rw [← HZS.out]; show 0 ≤ (cs ((xs.take k).map fun p => ix p (nAdds P0 (xs.take k)))).getD i 0; rw [cs_at]; omega))
      clear hrow hsp
      go_wp2_with fail
      refine C.out.mono ?_
      rintro e w9 ⟨l9, c9, rfl, H9⟩
      have hall : xs.take k = xs := List.take_of_length_le (by have := HA.out.1; have := HK.out; omega)
      have hon : onN zs k = nNums (nAdds P0 xs) xs := by
        have hk9 := HNL.out
        rw [← HZS.out]
        rw [hall] at hk9 ⊢
        rw [cs_len] at hk9
        unfold onN nNums
        congr 1
        rw [← hk9]
        apply List.ext_getElem?
        intro i
        by_cases hi : i < (xs.map fun p => ix p (nAdds P0 xs)).length
        · rw [List.getElem?_map, List.getElem?_range hi, Option.map_some]
          show some ((cs (xs.map fun p => ix p (nAdds P0 xs))).getD i 0).toNat = _
          rw [cs_at, List.getD_eq_getElem?_getD, List.getElem?_eq_getElem hi]
          simp
        · rw [List.getElem?_eq_none (by simpa using hi), List.getElem?_eq_none (by simpa using hi)]
      have HF := hid (HU.out.below H9.out.2)
      have h91 := H9.out.1
      rw [hon] at h91
      have hlen9 : (onN zs k).length = (nNums (nAdds P0 xs) xs).length := by rw [hon]
      have HH := hid (And.intro h91 (And.intro hall hlen9))
      clear h91 hall hlen9 hon
      go_wp2
      go_ret
      refine ⟨l9, c9, _, by rw [← HH.out.2.2]; rfl, hid ⟨HF.out.var, ?_, owns_mono HH.out.1 HU.out.fr.size, HF.out.fr, HF.out.loc⟩⟩
      have := HF.out.own
      rw [HH.out.2.1] at this
      exact this

end Go.Proofs.Ytdncjikmknkkpaa
