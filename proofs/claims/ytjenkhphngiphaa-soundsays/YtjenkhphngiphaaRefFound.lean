/- The document's Found. -/
import Derived.Test.YtjenkhphngiphaaRefFd0
import Derived.Test.YtjenkhphngiphaaRefSteps
namespace Go.Proofs.Ytjenkhphngiphaa
open Go.RowKit Go.Maps

set_option maxRecDepth 20000 in
set_option maxHeartbeats 8000000 in
theorem found_any {na fa ma xa : Option Addr} {N nc F fc mc G xc : Nat} {M : Nat → ByteArray} {K A B : Nat → Int} {L : Nat → Nat} {S Z Y : Nat → Nat → Int} {w : World} {d l1 l2 : List Int} {r1 r2 : Int}
    (hp : Prc w na N nc fa F M K A B) (hM : ∀ i, i < N → (M i).size ≤ maxLen) (he : ChkIs N F M K A B 0) (hfew : (stAll K A B F N).length ≤ 60)
    (hG : G ≤ 200) (hG1 : 1 ≤ G) (hm : Gr w ma G (fun _ => F) Y) (hx : Egs w xa G L S Z) (hL : ∀ r, r < G → L r ≤ 60) (herr : errG G L Z = 0) (hS : ∀ r, r < G → ∀ i, i < L r → 0 ≤ S r i ∧ S r i < (stAll K A B F N).length)
    (hd : DeadIs N G L S (fun i => (stAll K A B F N).getD i (0, 0, 0)) K d) (h1 : FstIs (fun i => L i = 0 ∧ zB F (Y i) = false) G r1) (h2 : FstIs (NvP G F L Z Y) G r2) (ht1 : ToIs G L S Z r1 l1) (ht2 : ToIs G L S Z r2 l2) :
    Calls Try.prog 9 #[.agg #[.slice na N nc, .slice fa F fc], .agg #[.slice ma G mc, .slice xa G xc]] w fun e w' => Below w.heap.size w w' ∧ ∃ (a0 a3 a4 : Option Addr) (c0 c3 c4 : Nat), e = .returned (.agg #[.slice a0 d.length c0, .int .i64 r1, .int .i64 r2, .slice a3 l1.length c3, .slice a4 l2.length c4]) ∧
      Row w' a0 d.length (fun i => d.getD i 0) ∧ Row w' a3 l1.length (fun i => l1.getD i 0) ∧ Row w' a4 l2.length (fun i => l2.getD i 0) := by
  have hF30 : F ≤ 30 := (chk_zero he).1.2
  have hN20 : N ≤ 20 := (chk_zero he).1.1
  obtain ⟨W0, eW0⟩ : ∃ x, x = ((w.alloc (.cells #[.slice na N nc, .slice fa F fc] 25)).alloc (.cells #[.slice ma G mc, .slice xa G xc] 35)).alloc (.cells #[.slice none 0 0, .int .i64 0, .int .i64 0, .slice none 0 0, .slice none 0 0] 28) := ⟨_, rfl⟩
  have e1 : (w.alloc (.cells #[.slice na N nc, .slice fa F fc] 25)).heap.size = w.heap.size + 1 := by simp
  have e2 : ((w.alloc (.cells #[.slice na N nc, .slice fa F fc] 25)).alloc (.cells #[.slice ma G mc, .slice xa G xc] 35)).heap.size = w.heap.size + 1 + 1 := by simp
  have HW0 : Hid (Below w.heap.size w W0 ∧ W0.heap.size = w.heap.size + 1 + 1 + 1) := by
    subst eW0
    exact ⟨((box_below _ _).trans ((box_below _ _).mono (by simp))).trans ((box_below _ _).mono (by simp; omega)), by simp⟩
  have HBx : Hid (∀ u, Below W0.heap.size W0 u → u.cell? ⟨w.heap.size, 0, none⟩ = some (.slice na N nc) ∧ u.cell? ⟨w.heap.size + 1, 0, none⟩ = some (.slice ma G mc) ∧ u.cell? ⟨w.heap.size + 1, 1, none⟩ = some (.slice xa G xc) ∧ Fin5 u (w.heap.size + 1 + 1) (.slice none 0 0) (.int .i64 0) (.int .i64 0) (.slice none 0 0) (.slice none 0 0)) := fun u hu => by
    have h4 : Fin5 W0 (w.heap.size + 1 + 1) (.slice none 0 0) (.int .i64 0) (.int .i64 0) (.slice none 0 0) (.slice none 0 0) := by
      subst eW0
      unfold Fin5
      rw [← e2]
      exact Go.Deep.blk_alloc_new _ _
    refine ⟨?_, ?_, ?_, h4.below hu⟩
    · subst eW0
      exact keep_alloc hu (keep_alloc (Below.refl _ _) (cell_of_alloc rfl))
    · subst eW0
      rw [← e1]
      exact keep_alloc hu (cell_of_alloc rfl)
    · subst eW0
      rw [← e1]
      exact keep_alloc hu (cell_of_alloc rfl)
  have HEW0 : Hid (((w.alloc (.cells #[.slice na N nc, .slice fa F fc] 25)).alloc (.cells #[.slice ma G mc, .slice xa G xc] 35)).alloc (.cells #[.slice none 0 0, .int .i64 0, .int .i64 0, .slice none 0 0, .slice none 0 0] 28) = W0) := eW0.symm
  have C1 : Hid (Calls Try.prog 26 #[.agg #[.slice na N nc, .slice fa F fc]] W0 fun e w' => Below W0.heap.size W0 w' ∧ ∃ (la : Option Addr) (lc : Nat), e = .returned (.tuple #[.slice la (stAll K A B F N).length lc, .int .i64 0]) ∧ Sts w' la (stAll K A B F N).length (fun i => (stAll K A B F N).getD i (0, 0, 0))) := by
    refine (steps_any na fa N nc F fc M K A B 0 W0 (hp.below HW0.out.1) hM he).mono fun e w' hh => ⟨hh.1, ?_⟩
    rcases hh.2 with ⟨g1, _⟩ | ⟨_, g1, _⟩ | ⟨_, _, la, lc, g1, _, g2⟩
    · exact absurd rfl g1
    · omega
    · exact ⟨la, lc, g1, g2⟩
  have HT : Hid (∀ s, s < (stAll K A B F N).length → 0 ≤ ((fun i => (stAll K A B F N).getD i (0, 0, 0)) s).1 ∧ ((fun i => (stAll K A B F N).getD i (0, 0, 0)) s).1 < N) := st_nodes
  generalize hln : (stAll K A B F N).length = ln at *
  generalize hTT : (fun i => (stAll K A B F N).getD i (0, 0, 0)) = T at *
  have HNd : Hid (Nds w na N M K) := hp.nds
  have HMk : Hid (Gr w ma G (fun _ => F) Y) := hm
  have HX : Hid (Egs w xa G L S Z) := hx
  have HL : Hid (∀ r, r < G → L r ≤ 60) := hL
  have HErr : Hid (errG G L Z = 0) := herr
  have HS : Hid (∀ r, r < G → ∀ i, i < L r → 0 ≤ S r i ∧ S r i < ln) := hS
  have HD : Hid (DeadIs N G L S T K d) := hd
  have HF1 : Hid (FstIs (fun i => L i = 0 ∧ zB F (Y i) = false) G r1) := h1
  have HF2 : Hid (FstIs (NvP G F L Z Y) G r2) := h2
  have HT1 : Hid (ToIs G L S Z r1 l1) := ht1
  have HT2 : Hid (ToIs G L S Z r2 l2) := ht2
  clear hp hM he hm hx hL herr hS hd h1 h2 ht1 ht2 hln hTT e1 e2 eW0
  have hmkN := run_make_row' (P := Try.prog) 59 4 (.bool false) 1 Try.underlying59 Try.info4 rfl .i64 .i64 N (by omega) (by omega)
  have hmkG := run_make_row' (P := Try.prog) 32 26 (.slice none 0 0) 24 Try.underlying32 Try.info26 rfl .i64 .i64 G (by omega) (by omega)
  obtain ⟨i0, hi, hz0, hz1, hz2⟩ := info_parts Try.info3
  have HI : Hid (Try.prog.info? 3 = some i0 ∧ i0.zero = some (.int .i64 0) ∧ i0.size = 1 ∧ i0.bytes = 8) := ⟨hi, hz0, hz1, hz2⟩
  clear hi hz0 hz1 hz2
  go_enter Try.func9, Try.ntmps9
  go_wp2_with fail
  rw [HEW0.out]
  refine C1.out.mono ?_
  rintro e w1 ⟨hb1, la, lc, rfl, hsts⟩
  have HB1 : Hid (Below W0.heap.size W0 w1 ∧ Below w.heap.size w w1) := ⟨hb1, HW0.out.1.trans (hb1.mono HW0.out.1.size)⟩
  have HSt : Hid (Sts w1 la ln T) := hsts
  obtain ⟨p0, s0, s1, _⟩ := HBx.out w1 hb1
  have hsz : w.heap.size + 1 + 1 < w1.heap.size := by have := hb1.size; have := HW0.out.2; omega
  have hszp : w.heap.size < w1.heap.size := by omega
  have hszs : w.heap.size + 1 < w1.heap.size := by omega
  obtain ⟨Wb, eWb⟩ : ∃ x, x = (w1.alloc (.cells #[.int .i64 (G : Int)] 3)).alloc (.cells #[.slice none 0 0, .int .i64 (-1), .int .i64 (-1), .slice none 0 0, .slice none 0 0] 28) := ⟨_, rfl⟩
  have hbs : Wb.heap.size = w1.heap.size + 1 + 1 := by subst eWb; simp
  have HWb : Hid (Below w1.heap.size w1 Wb ∧ Wb.heap.size = w1.heap.size + 1 + 1 ∧ Fin5 Wb (w1.heap.size + 1) (.slice none 0 0) (.int .i64 (-1)) (.int .i64 (-1)) (.slice none 0 0) (.slice none 0 0) ∧ Wb.heap[w1.heap.size]? = some (.cells #[.int .i64 (G : Int)] 3 (0, 0))) := by
    refine ⟨by subst eWb; exact (box_below _ _).trans ((box_below _ _).mono (by simp)), hbs, ?_, ?_⟩
    · subst eWb
      have e1 : (w1.alloc (.cells #[.int .i64 (G : Int)] 3)).heap.size = w1.heap.size + 1 := by simp
      unfold Fin5
      rw [← e1]
      exact Go.Deep.blk_alloc_new _ _
    · subst eWb
      rw [Below.heap_alloc _ _ _ (by simp)]
      exact Go.Deep.blk_alloc_new _ _
  have HS0 : Hid (Fg Wb (((((w1.alloc (.cells #[.int .i64 (G : Int)] 3)).alloc (.cells #[.slice none 0 0, .int .i64 (-1), .int .i64 (-1), .slice none 0 0, .slice none 0 0] 28)).alloc (.cells (madeCells #[.bool false] N) 4)).alloc (.cells (madeCells #[.slice none 0 0] G) 26)).alloc (.cells #[.slice (some ⟨w1.heap.size + 1 + 1 + 1, 0, none⟩) G G] 32)) N G (fun _ => false) (gm L Z 0 0) (fun _ => .slice none 0 0) (Wb.alloc (.cells (madeCells #[.bool false] N) 4))) := by
    have := fg_start Wb N G (gm L Z 0 0) (fun _ _ => gm_start _ _ _)
    rw [hbs] at this
    show Fg _ _ _ _ _ _ _ _
    rw [← eWb]
    exact this
  have HOl : Hid (∀ u, Below Wb.heap.size Wb u → u.cell? ⟨w.heap.size, 0, none⟩ = some (.slice na N nc) ∧ u.cell? ⟨w.heap.size + 1, 0, none⟩ = some (.slice ma G mc) ∧ u.cell? ⟨w.heap.size + 1, 1, none⟩ = some (.slice xa G xc) ∧ u.cell? ⟨w1.heap.size, 0, none⟩ = some (.int .i64 G) ∧ Below w1.heap.size w1 u ∧ Below w.heap.size w u) := fun u hu => by
    have h1 : Below w1.heap.size w1 u := HWb.out.1.trans (hu.mono HWb.out.1.size)
    obtain ⟨g1, g2, g3, _⟩ := HBx.out u (HB1.out.1.trans (h1.mono HB1.out.1.size))
    refine ⟨g1, g2, g3, ?_, h1, HB1.out.2.trans (h1.mono HB1.out.2.size)⟩
    have h2 := hu.block w1.heap.size (by rw [hbs]; omega)
    rw [HWb.out.2.2.2] at h2
    exact cell_of_cells h2 rfl
  clear hb1 hsts C1 eWb
  go_wp2
  clear hmkN hmkG
  go_loopw [11] (fun i wr => ∃ k : Nat, k ≤ G ∧ i = .int .i64 k ∧ Hid (∃ D V Wd, Fg Wb wr N G D (gm L Z k 0) V Wd ∧ DoesIs N L S T k 0 D)) (fun i _ => G - (intOf i).toNat)
  case atStart => exact ⟨0, Nat.zero_le _, rfl, hid ⟨_, _, _, HS0.out, does_start⟩⟩
  case round =>
    clear p0 s0 s1 HS0
    obtain ⟨r, hr, rfl, hX⟩ := hrel
    obtain ⟨D, V, Wd, hFg, hDs⟩ := hX.out
    have HFg : Hid (Fg Wb wr N G D (gm L Z r 0) V Wd ∧ DoesIs N L S T r 0 D) := ⟨hFg, hDs⟩
    obtain ⟨p0, s0, s1, n0, hbw1, hbw⟩ := HOl.out wr hFg.below
    have HBw : Hid (Below w.heap.size w wr) := hbw
    have hsz1 : w1.heap.size < wr.heap.size := World.block_lt_of_cell? _ _ n0
    clear hFg hDs hX hbw1 hbw
    by_cases hlt : r < G
    · have hrz : (r : Int) < G := by omega
      have hLr := HL.out r hlt
      go_wp2
      go_loopw [12] (fun i wi => ∃ k : Nat, k ≤ L r ∧ i = .int .i64 k ∧ Hid (∃ D V Wd, Fg Wb wi N G D (gm L Z r k) V Wd ∧ DoesIs N L S T r k D)) (fun i _ => L r - (intOf i).toNat)
      case atStart => exact ⟨0, Nat.zero_le _, rfl, hid ⟨_, _, _, HFg.out.1, HFg.out.2⟩⟩
      case round =>
        clear p0 s0 s1 n0 HFg HBw
        obtain ⟨k, hk, rfl, hX⟩ := hrel
        obtain ⟨D, V, Wd, hFg, hDs⟩ := hX.out
        have HFg : Hid (Fg Wb wr N G D (gm L Z r k) V Wd ∧ DoesIs N L S T r k D) := ⟨hFg, hDs⟩
        obtain ⟨p0, s0, s1, n0, hbw1, hbw⟩ := HOl.out wr hFg.below
        have HBw : Hid (Below w1.heap.size w1 wr ∧ Below w.heap.size w wr) := ⟨hbw1, hbw⟩
        obtain ⟨b, o, ha, hc⟩ := HX.out
        obtain rfl := ha (by omega)
        obtain ⟨ea, ec, hck0, hfl⟩ := hc r hlt
        obtain ⟨eb, eo, hea, hec⟩ := hfl
        have hbb : b < w.heap.size := World.block_lt_of_cell? _ _ hck0
        have hck : wr.cell? ⟨b, o + r, none⟩ = some (.slice ea (L r) ec) := (hbw.cell (p := ⟨b, o + r, none⟩) hbb).trans hck0
        clear hFg hDs hX hbw1 hbw ha hc hck0
        by_cases hlk : k < L r
        · obtain rfl := hea (by omega)
          have hzk : (k : Int) < L r := by omega
          obtain ⟨h1, h2⟩ := Fls.at hec HBw.out.2 hlk
          have heb : eb < w.heap.size := World.block_lt_of_cell? _ _ (hec k hlk).1
          have hSr := HS.out r hlt k hlk
          obtain ⟨s, hs⟩ : ∃ s : Nat, S r k = s := ⟨(S r k).toNat, by omega⟩
          have hsl : s < ln := by omega
          have hslz : (s : Int) < ln := by omega
          have hTs := HT.out s hsl
          obtain ⟨x, hx⟩ : ∃ x : Nat, (T s).1 = x := ⟨(T s).1.toNat, by omega⟩
          have hxN : x < N := by omega
          have hxz : (x : Int) < N := by omega
          obtain ⟨lb, lo, hla, hlc⟩ := HSt.out
          obtain rfl := hla (by omega)
          obtain ⟨g1, _, _⟩ := Sts.at hlc HBw.out.1 hsl
          obtain ⟨z0, hz⟩ : ∃ z, Z r k = z := ⟨_, rfl⟩
          rw [hs] at h1
          rw [hz] at h2
          rw [hx] at g1
          have HXx : Hid ((T (S r k).toNat).1 = x ∧ Z r k = z0) := ⟨by rw [hs, Int.toNat_natCast, hx], hz⟩
          have hct := HFg.out.1.row.cell hxN
          have hcz := HFg.out.1.row.frozen x
          rw [HWb.out.2.1] at hct hcz
          clear hSr hs hTs hx hla hlc hea hec hz
          generalize hdx : D x = dx at *
          clear hdx
          go_upto_region 13 with fail
          have HFU : Hid (Fg Wb (wr.setCell ⟨w1.heap.size + 1 + 1, x, none⟩ (.bool true)) N G (mark D x) (gm L Z r k) V (Wd.setCell ⟨w1.heap.size + 1 + 1, x, none⟩ (.bool true))) := by
            have := HFg.out.1.mark x
            rw [HWb.out.2.1] at this
            exact this
          have u1 : (wr.setCell ⟨w1.heap.size + 1 + 1, x, none⟩ (.bool true)).cell? ⟨w.heap.size + 1, 1, none⟩ = some (.slice (some ⟨b, o, none⟩) G xc) := (cell_set_other (p := ⟨w.heap.size + 1, 1, none⟩) (by show w.heap.size + 1 ≠ w1.heap.size + 1 + 1; omega)).trans s1
          have u2 : (wr.setCell ⟨w1.heap.size + 1 + 1, x, none⟩ (.bool true)).cell? ⟨b, o + r, none⟩ = some (.slice (some ⟨eb, eo, none⟩) (L r) ec) := (cell_set_other (p := ⟨b, o + r, none⟩) (by show b ≠ w1.heap.size + 1 + 1; omega)).trans hck
          have u3 : (wr.setCell ⟨w1.heap.size + 1 + 1, x, none⟩ (.bool true)).cell? ⟨eb, eo + k * 2 + 1, none⟩ = some (.int .i64 z0) := (cell_set_other (p := ⟨eb, eo + k * 2 + 1, none⟩) (by show eb ≠ w1.heap.size + 1 + 1; omega)).trans h2
          clear p0 s0 s1 n0 h1 h2 hck g1 hct hcz
          generalize wr.setCell ⟨w1.heap.size + 1 + 1, x, none⟩ (.bool true) = U at *
          have u4 := HFU.out.gxc
          rw [HWb.out.2.1] at u4
          obtain ⟨a2, c2, hv, _⟩ := owns_row (HFU.out.fam.own r hlt)
          have hlen : (gm L Z r k r).length ≤ 1000 := by rw [gm_at, lst_len]; omega
          have hown0 := HFU.out.fam.own r hlt
          have u5 := HFU.out.fam.top.cell hlt
          rw [HFU.out.sz, HWb.out.2.1, hv] at u5
          rw [hv, HFU.out.sz] at hown0
          generalize hm : (gm L Z r k r).length = m at *
          have HM : Hid ((gm L Z r k r).length = m) := hm
          have HV : Hid (V r = .slice a2 m c2) := hv
          have HO : Hid (U.ownsRow (Wb.heap.size + 1 + 1) 3 1 (.slice a2 m c2) m (vals (gm L Z r k r))) := hown0
          have HSz : Hid (Wb.heap.size + 1 + 1 < U.heap.size) := HFU.out.big
          have hU1 : w1.heap.size + 1 + 1 + 1 < U.heap.size := World.block_lt_of_cell? _ _ u5
          have hU2 : w1.heap.size + 1 + 1 + 1 + 1 < U.heap.size := World.block_lt_of_cell? _ _ u4
          clear hm hv hown0
          have HNe : Hid (∀ q, q < w1.heap.size → (Value.slice a2 m c2).ownBlock ≠ some q) := fun q hq e => by
            have h1 := (HO.out.lt _ e).1
            have h2 := HWb.out.2.1
            omega
          refine G_region (fun z => z.cell? ⟨w1.heap.size + 1 + 1 + 1 + 1, 0, none⟩ = some (.slice (some ⟨w1.heap.size + 1 + 1 + 1, 0, none⟩) G G) ∧ z.cell? ⟨w1.heap.size + 1 + 1 + 1, r, none⟩ = some (.slice a2 m c2) ∧ z.cell? ⟨w.heap.size + 1, 1, none⟩ = some (.slice (some ⟨b, o, none⟩) G xc) ∧ z.cell? ⟨b, o + r, none⟩ = some (.slice (some ⟨eb, eo, none⟩) (L r) ec) ∧ z.cell? ⟨eb, eo + k * 2 + 1, none⟩ = some (.int .i64 z0)) (fun j => j == 18) (by kernel_rfl) ⟨u4, u5, u1, u2, u3⟩ (fun hHeld => ?_)
          refine G_take (i := 0) (oi := { dst := some 64, op := Op.load 32 (Operand.tmp 10), type := 32, pos := _, after := #[], guard := none }) (v := .slice (some ⟨w1.heap.size + 1 + 1 + 1, 0, none⟩) G G) rfl (by kernel_rfl) (by kernel_rfl) (by kernel_rfl) (by kernel_rfl) (fun _ _ _ h => h) (by rfl) (fun u hu => ?_) hHeld ?_
          · (try dsimp only at hu); go_simp
          (try simp only [Act.put, List.setIfInBounds_toArray, List.set_cons_zero, List.set_cons_succ])
          refine G_take (i := 1) (oi := { dst := some 65, op := Op.move (Operand.tmp 11), type := 3, pos := _, after := #[], guard := none }) (v := .int .i64 r) rfl (by kernel_rfl) (by kernel_rfl) (by kernel_rfl) (by kernel_rfl) (fun _ _ _ h => h) (by rfl) (fun u hu => ?_) hHeld ?_
          · (try dsimp only at hu); go_simp
          (try simp only [Act.put, List.setIfInBounds_toArray, List.set_cons_zero, List.set_cons_succ])
          refine G_take (i := 2) (oi := { dst := some 66, op := Op.load 32 (Operand.tmp 10), type := 32, pos := _, after := #[], guard := none }) (v := .slice (some ⟨w1.heap.size + 1 + 1 + 1, 0, none⟩) G G) rfl (by kernel_rfl) (by kernel_rfl) (by kernel_rfl) (by kernel_rfl) (fun _ _ _ h => h) (by rfl) (fun u hu => ?_) hHeld ?_
          · (try dsimp only at hu); go_simp
          (try simp only [Act.put, List.setIfInBounds_toArray, List.set_cons_zero, List.set_cons_succ])
          refine G_take (i := 3) (oi := { dst := some 67, op := Op.move (Operand.tmp 11), type := 3, pos := _, after := #[], guard := none }) (v := .int .i64 r) rfl (by kernel_rfl) (by kernel_rfl) (by kernel_rfl) (by kernel_rfl) (fun _ _ _ h => h) (by rfl) (fun u hu => ?_) hHeld ?_
          · (try dsimp only at hu); go_simp
          (try simp only [Act.put, List.setIfInBounds_toArray, List.set_cons_zero, List.set_cons_succ])
          refine G_take (i := 4) (oi := { dst := some 68, op := Op.indexAddr 32 (Operand.tmp 66) (Operand.tmp 67), type := 0, pos := _, after := #[{ on := 2, ground := Ground.data }, { on := 3, ground := Ground.data }], guard := none }) (v := .pointer (some ⟨w1.heap.size + 1 + 1 + 1, r, none⟩)) rfl (by kernel_rfl) (by kernel_rfl) (by kernel_rfl) (by kernel_rfl) (fun _ _ _ h => h) (by rfl) (fun u hu => ?_) hHeld ?_
          · (try dsimp only at hu); go_simp
          (try simp only [Act.put, List.setIfInBounds_toArray, List.set_cons_zero, List.set_cons_succ])
          refine G_take (i := 5) (oi := { dst := some 69, op := Op.load 26 (Operand.tmp 68), type := 26, pos := _, after := #[{ on := 4, ground := Ground.data }], guard := none }) (v := .slice a2 m c2) rfl (by kernel_rfl) (by kernel_rfl) (by kernel_rfl) (by kernel_rfl) (fun _ _ _ h => h) (by rfl) (fun u hu => ?_) hHeld ?_
          · (try dsimp only at hu); go_simp
          (try simp only [Act.put, List.setIfInBounds_toArray, List.set_cons_zero, List.set_cons_succ])
          refine G_take (i := 6) (oi := { dst := some 70, op := Op.fieldAddr 35 (Operand.tmp 3) 1, type := 0, pos := _, after := #[], guard := none }) (v := .pointer (some ⟨w.heap.size + 1, 1, none⟩)) rfl (by kernel_rfl) (by kernel_rfl) (by kernel_rfl) (by kernel_rfl) (fun _ _ _ h => h) (by rfl) (fun u hu => ?_) hHeld ?_
          · (try dsimp only at hu); go_simp
          (try simp only [Act.put, List.setIfInBounds_toArray, List.set_cons_zero, List.set_cons_succ])
          refine G_take (i := 7) (oi := { dst := some 71, op := Op.load 33 (Operand.tmp 70), type := 33, pos := _, after := #[{ on := 6, ground := Ground.data }], guard := none }) (v := .slice (some ⟨b, o, none⟩) G xc) rfl (by kernel_rfl) (by kernel_rfl) (by kernel_rfl) (by kernel_rfl) (fun _ _ _ h => h) (by rfl) (fun u hu => ?_) hHeld ?_
          · (try dsimp only at hu); go_simp
          (try simp only [Act.put, List.setIfInBounds_toArray, List.set_cons_zero, List.set_cons_succ])
          refine G_take (i := 8) (oi := { dst := some 72, op := Op.move (Operand.tmp 11), type := 3, pos := _, after := #[], guard := none }) (v := .int .i64 r) rfl (by kernel_rfl) (by kernel_rfl) (by kernel_rfl) (by kernel_rfl) (fun _ _ _ h => h) (by rfl) (fun u hu => ?_) hHeld ?_
          · (try dsimp only at hu); go_simp
          (try simp only [Act.put, List.setIfInBounds_toArray, List.set_cons_zero, List.set_cons_succ])
          refine G_take (i := 9) (oi := { dst := some 73, op := Op.indexAddr 33 (Operand.tmp 71) (Operand.tmp 72), type := 0, pos := _, after := #[{ on := 7, ground := Ground.data }, { on := 8, ground := Ground.data }], guard := none }) (v := .pointer (some ⟨b, o + r, none⟩)) rfl (by kernel_rfl) (by kernel_rfl) (by kernel_rfl) (by kernel_rfl) (fun _ _ _ h => h) (by rfl) (fun u hu => ?_) hHeld ?_
          · (try dsimp only at hu); go_simp
          (try simp only [Act.put, List.setIfInBounds_toArray, List.set_cons_zero, List.set_cons_succ])
          refine G_take (i := 10) (oi := { dst := some 74, op := Op.load 56 (Operand.tmp 73), type := 56, pos := _, after := #[{ on := 9, ground := Ground.data }], guard := none }) (v := .slice (some ⟨eb, eo, none⟩) (L r) ec) rfl (by kernel_rfl) (by kernel_rfl) (by kernel_rfl) (by kernel_rfl) (fun _ _ _ h => h) (by rfl) (fun u hu => ?_) hHeld ?_
          · (try dsimp only at hu); go_simp
          (try simp only [Act.put, List.setIfInBounds_toArray, List.set_cons_zero, List.set_cons_succ])
          refine G_take (i := 11) (oi := { dst := some 75, op := Op.move (Operand.tmp 12), type := 3, pos := _, after := #[], guard := none }) (v := .int .i64 k) rfl (by kernel_rfl) (by kernel_rfl) (by kernel_rfl) (by kernel_rfl) (fun _ _ _ h => h) (by rfl) (fun u hu => ?_) hHeld ?_
          · (try dsimp only at hu); go_simp
          (try simp only [Act.put, List.setIfInBounds_toArray, List.set_cons_zero, List.set_cons_succ])
          refine G_take (i := 12) (oi := { dst := some 76, op := Op.indexAddr 56 (Operand.tmp 74) (Operand.tmp 75), type := 0, pos := _, after := #[{ on := 10, ground := Ground.data }, { on := 11, ground := Ground.data }], guard := none }) (v := .pointer (some ⟨eb, eo + k * 2, none⟩)) rfl (by kernel_rfl) (by kernel_rfl) (by kernel_rfl) (by kernel_rfl) (fun _ _ _ h => h) (by rfl) (fun u hu => ?_) hHeld ?_
          · (try dsimp only at hu); go_simp
          (try simp only [Act.put, List.setIfInBounds_toArray, List.set_cons_zero, List.set_cons_succ])
          refine G_take (i := 13) (oi := { dst := some 77, op := Op.fieldAddr 58 (Operand.tmp 76) 1, type := 0, pos := _, after := #[{ on := 12, ground := Ground.data }], guard := none }) (v := .pointer (some ⟨eb, eo + k * 2 + 1, none⟩)) rfl (by kernel_rfl) (by kernel_rfl) (by kernel_rfl) (by kernel_rfl) (fun _ _ _ h => h) (by rfl) (fun u hu => ?_) hHeld ?_
          · (try dsimp only at hu); go_simp
          (try simp only [Act.put, List.setIfInBounds_toArray, List.set_cons_zero, List.set_cons_succ])
          refine G_take (i := 14) (oi := { dst := some 78, op := Op.load 3 (Operand.tmp 77), type := 3, pos := _, after := #[{ on := 13, ground := Ground.data }], guard := none }) (v := .int .i64 z0) rfl (by kernel_rfl) (by kernel_rfl) (by kernel_rfl) (by kernel_rfl) (fun _ _ _ h => h) (by rfl) (fun u hu => ?_) hHeld ?_
          · (try dsimp only at hu); go_simp
          (try simp only [Act.put, List.setIfInBounds_toArray, List.set_cons_zero, List.set_cons_succ])
          refine G_step (i := 15) (o := { dst := some 79, op := Op.buildSlice 26 1 #[(0, Operand.tmp 78)], type := 26, pos := _, after := #[{ on := 14, ground := Ground.data }], guard := none }) (by kernel_rfl) rfl (fun K' hK => ?_)
          go_simp
          refine hK.out _ _ (fun _ => ?_) (fun hS2 => ?_)
          · exact ⟨keep_alloc (Below.refl _ _).drew u4, keep_alloc (Below.refl _ _).drew u5, keep_alloc (Below.refl _ _).drew u1, keep_alloc (Below.refl _ _).drew u2, keep_alloc (Below.refl _ _).drew u3⟩
          have hHeld2 := hS2 rfl
          clear hK K' hS2 hHeld
          (try simp only [Act.put, List.setIfInBounds_toArray, List.set_cons_zero, List.set_cons_succ])
          refine G_step (i := 16) (o := { dst := some 80, op := Op.call { callee := Callee.builtin Builtin.append, args := #[Operand.tmp 69, Operand.tmp 79], argTypes := #[26, 26] }, type := 26, pos := _, after := #[{ on := 5, ground := Ground.data }, { on := 15, ground := Ground.data }], guard := none }) (by kernel_rfl) rfl (fun K' hK => ?_)
          (refine step_append_lies _ (by rfl) _ _ _ (by rfl) (Wb.heap.size + 1 + 1) 3 i0 _ 1 8 Try.underlying26 HI.out.1 HI.out.2.1 HI.out.2.2.1 HI.out.2.2.2 rfl (by omega) (.slice a2 m c2) m (vals (gm L Z r k r)) (by rfl) ((HO.out.alloc _).drew) ⟨U.heap.size, 0, none⟩ 1 1 [.int .i64 z0] (by rfl) (by rfl) (World.news_of_block (cs := #[.int .i64 z0]) (t := 3) (fr := (0, 0)) (heap_alloc_new U _)) (by simp [Value.oneCell']) (by omega) (by unfold maxLen; omega) (by omega) (by have := HSz.out; simp; omega) (U.heap.size + 1) (by simp) ?_; intro gg cap w9 hown9 hgrow9 hat9 hlt9; obtain ⟨j1, j2, j3, H9⟩ := Fg.app HFU.out hlt HM.out HV.out hown9 hgrow9 hat9; rw [HWb.out.2.1] at j1 j2 j3 H9; have v1 := grown_cell hgrow9 u1 (HNe.out _ (by show w.heap.size + 1 < _; omega)); have v2 := grown_cell hgrow9 u2 (HNe.out _ (by show b < _; omega)); have v3 := grown_cell hgrow9 u3 (HNe.out _ (by show eb < _; omega)); clear hown9 hgrow9 hat9)
          refine hK.out _ _ (fun _ => ?_) (fun hS2 => ?_)
          · exact ⟨j3, j1, v1, v2, v3⟩
          have hHeld3 := hS2 rfl
          clear hK K' hS2 hHeld2
          (try simp only [Act.put, List.setIfInBounds_toArray, List.set_cons_zero, List.set_cons_succ])
          refine G_step (i := 17) (o := { dst := some 81, op := Op.indexAddr 32 (Operand.tmp 64) (Operand.tmp 65), type := 0, pos := _, after := #[{ on := 0, ground := Ground.data }, { on := 1, ground := Ground.data }, { on := 0, ground := Ground.phase }, { on := 1, ground := Ground.phase }, { on := 2, ground := Ground.phase }, { on := 3, ground := Ground.phase }, { on := 4, ground := Ground.phase }, { on := 5, ground := Ground.phase }, { on := 6, ground := Ground.phase }, { on := 7, ground := Ground.phase }, { on := 8, ground := Ground.phase }, { on := 9, ground := Ground.phase }, { on := 10, ground := Ground.phase }, { on := 11, ground := Ground.phase }, { on := 12, ground := Ground.phase }, { on := 13, ground := Ground.phase }, { on := 14, ground := Ground.phase }, { on := 15, ground := Ground.phase }, { on := 16, ground := Ground.phase }], guard := none }) (by kernel_rfl) rfl (fun K' hK => ?_)
          go_simp
          refine hK.out _ _ (fun _ => ?_) (fun hS2 => ?_)
          · exact ⟨j3, j1, v1, v2, v3⟩
          have hHeld4 := hS2 rfl
          clear hK K' hS2 hHeld3
          (try simp only [Act.put, List.setIfInBounds_toArray, List.set_cons_zero, List.set_cons_succ])
          refine G_step (i := 18) (o := { dst := none, op := Op.store 26 (Operand.tmp 81) (Operand.tmp 80), type := 0, pos := _, after := #[{ on := 17, ground := Ground.data }, { on := 16, ground := Ground.data }, { on := 16, ground := Ground.chain }, { on := 0, ground := Ground.phase }, { on := 1, ground := Ground.phase }, { on := 2, ground := Ground.phase }, { on := 3, ground := Ground.phase }, { on := 4, ground := Ground.phase }, { on := 5, ground := Ground.phase }, { on := 6, ground := Ground.phase }, { on := 7, ground := Ground.phase }, { on := 8, ground := Ground.phase }, { on := 9, ground := Ground.phase }, { on := 10, ground := Ground.phase }, { on := 11, ground := Ground.phase }, { on := 12, ground := Ground.phase }, { on := 13, ground := Ground.phase }, { on := 14, ground := Ground.phase }, { on := 15, ground := Ground.phase }, { on := 16, ground := Ground.phase }], guard := none }) (by kernel_rfl) rfl (fun K' hK => ?_)
          go_simp
          refine hK.out _ _ (fun h => absurd h (by decide)) (fun _ => ?_)
          clear hK K' hHeld4
          (try simp only [Act.put, List.setIfInBounds_toArray, List.set_cons_zero, List.set_cons_succ])
          refine G_done (by kernel_rfl) ?_ _
          go_wp2
          go_roundw
          case rel => exact ⟨k + 1, by omega, by go_num, hid (by obtain ⟨V', h9⟩ := H9.out; exact ⟨_, V', _, h9.congr (fun j _ => gm_next L Z r k j HXx.out.2), does_step hlk HXx.out.1 HFg.out.2⟩)⟩
          case measure => simp [intOf]; omega
        · obtain rfl : k = L r := by omega
          go_wp2
          go_roundw
          case rel => exact ⟨r + 1, by omega, by go_num, hid ⟨D, V, Wd, HFg.out.1.congr (fun j _ => gm_full L Z r j), does_full HFg.out.2⟩⟩
          case measure => simp [intOf]; omega
    · obtain rfl : r = G := by omega
      obtain ⟨w4, e4⟩ : ∃ x, x = wr := ⟨_, rfl⟩
      subst e4
      have HDe : Hid (fl (ddX D K) 1 N = d) := by
        obtain ⟨D', hD', rfl⟩ := HD.out
        show _ = _
        exact DeadIs.uniq ⟨D, HFg.out.2, rfl⟩ ⟨D', hD', rfl⟩
      have HG4 : Hid (Gt w4 (w1.heap.size + 1 + 1 + 1) (w1.heap.size + 1 + 1 + 1 + 1) r (gm L Z r 0) V) := by
        have h1 := HFg.out.1.fam.top
        have h2 := HFg.out.1.fam.own
        rw [HFg.out.1.sz, HWb.out.2.1] at h1 h2
        exact ⟨h1, h2⟩
      have HR4 : Hid (w4.rowIs (w1.heap.size + 1 + 1) 4 N (fun i => .bool (D i))) := by
        have h1 := HFg.out.1.row
        rw [HWb.out.2.1] at h1
        exact h1
      have HX4 : Hid (w4.heap[w1.heap.size + 1 + 1 + 1 + 1]? = some (.cells #[.slice (some ⟨w1.heap.size + 1 + 1 + 1, 0, none⟩) r r] 32 (0, 0))) := by
        have h1 := HFg.out.1.gx
        rw [HWb.out.2.1] at h1
        exact h1
      have HN4 : Hid (w4.heap[w1.heap.size]? = some (.cells #[.int .i64 (r : Int)] 3 (0, 0))) := by
        have h1 := HFg.out.1.below.block w1.heap.size (by rw [hbs]; omega)
        rw [HWb.out.2.2.2] at h1
        exact h1
      have HFo : Hid (Fo w1 w4 w4 (w1.heap.size + 1) (.slice none 0 0) [] (-1) (-1)) := by
        refine ⟨HWb.out.1.trans (HFg.out.1.below.mono HWb.out.1.size), Kp.refl _ _, Nat.le_refl _, ?_, World.ownsRow_nil _ _ _ _⟩
        unfold Fin5
        rw [HFg.out.1.below.block _ (by rw [hbs]; omega)]
        exact HWb.out.2.2.1
      have hw4 : w1.heap.size + 1 + 1 + 1 + 1 < w4.heap.size := (Array.getElem?_eq_some_iff.1 HX4.out).1
      have HFc : Hid (∀ u dv dl s1 s2, Fo w1 w4 u (w1.heap.size + 1) dv dl s1 s2 → (u.cell? ⟨w.heap.size, 0, none⟩ = some (.slice na N nc) ∧ u.cell? ⟨w.heap.size + 1, 0, none⟩ = some (.slice ma r mc) ∧ u.cell? ⟨w.heap.size + 1, 1, none⟩ = some (.slice xa r xc) ∧ u.cell? ⟨w1.heap.size, 0, none⟩ = some (.int .i64 r) ∧ u.cell? ⟨w1.heap.size + 1 + 1 + 1 + 1, 0, none⟩ = some (.slice (some ⟨w1.heap.size + 1 + 1 + 1, 0, none⟩) r r)) ∧
          (Gr u (some ⟨w1.heap.size + 1 + 1 + 1, 0, none⟩) r L Z ∧ (∀ i, i < N → u.cell? ⟨w1.heap.size + 1 + 1, i, none⟩ = some (.bool (D i))) ∧ Below w.heap.size w u ∧ Below W0.heap.size W0 u ∧ w1.heap.size + 1 + 1 + 1 + 1 < u.heap.size)) := fun u dv dl s1 s2 h => by
        have hb0 : Below W0.heap.size W0 u := HB1.out.1.trans (h.old.mono HB1.out.1.size)
        obtain ⟨g1, g2, g3, _⟩ := HBx.out u hb0
        refine ⟨⟨g1, g2, g3, cell_of_cells (h.kp _ _ HN4.out (by show some 3 ∈ _; simp)) rfl, cell_of_cells (h.kp _ _ HX4.out (by show some 32 ∈ _; simp)) rfl⟩, (HG4.out.kp h.kp (by simp) (by simp)).gr, fun i hi => ?_, HB1.out.2.trans (h.old.mono HB1.out.2.size), hb0, Nat.lt_of_lt_of_le hw4 h.sz⟩
        obtain ⟨c, hc1, hc2, hc3⟩ := HR4.out
        have h3 : u.rowIs (w1.heap.size + 1 + 1) 4 N (fun i => .bool (D i)) := ⟨c, h.kp _ _ hc1 (by show some 4 ∈ _; simp), hc2, hc3⟩
        exact h3.cell hi
      clear p0 s0 s1 HFg HD HG4 HR4 HX4 HN4 HOl HS HSt HT
      go_wp2
      clear n0
      go_loopw [13] (fun i wr => ∃ k : Nat, k ≤ N ∧ i = .int .i64 k ∧ Hid (∃ va vc, Fo w1 w4 wr (w1.heap.size + 1) (.slice va (fl (ddX D K) 1 k).length vc) (fl (ddX D K) 1 k) (-1) (-1))) (fun i _ => N - (intOf i).toNat)
      case atStart => exact ⟨0, Nat.zero_le _, rfl, hid ⟨none, 0, HFo.out⟩⟩
      case round =>
        clear HFo
        obtain ⟨k, hk, rfl, hX⟩ := hrel
        obtain ⟨va, vc, hFo⟩ := hX.out
        have HFo : Hid (Fo w1 w4 wr (w1.heap.size + 1) (.slice va (fl (ddX D K) 1 k).length vc) (fl (ddX D K) 1 k) (-1) (-1)) := hFo
        obtain ⟨⟨p0, s0, s1, n0, x0⟩, hgr, hdo, hbw, hbW, hbig⟩ := HFc.out wr _ _ _ _ hFo
        have HGr : Hid (Gr wr (some ⟨w1.heap.size + 1 + 1 + 1, 0, none⟩) r L Z ∧ Below w.heap.size w wr) := ⟨hgr, hbw⟩
        clear hX hFo hgr hbW
        by_cases hlk : k < N
        · have hkz : (k : Int) < N := by omega
          have hdc := hdo k hlk
          obtain ⟨nb, no, hna, hnc⟩ := HNd.out
          obtain rfl := hna (by omega)
          have hkc : wr.cell? ⟨nb, no + k * 2 + 1, none⟩ = some (.int .i64 (K k)) := (HGr.out.2.cell (p := ⟨nb, no + k * 2 + 1, none⟩) (World.block_lt_of_cell? _ _ (hnc k hlk).2)).trans (hnc k hlk).2
          have hnb : nb < w.heap.size := World.block_lt_of_cell? _ _ (hnc k hlk).2
          obtain ⟨⟨k0, _⟩, ⟨f0, _⟩⟩ := fin5_cells HFo.out.out
          have HMiss : Hid (D k = true ∨ K k = 1 → ddX D K k ≠ 1) := fun hh => by
            unfold ddX
            rw [if_pos hh]
            decide
          have HHit : Hid (¬ (D k = true ∨ K k = 1) → ddX D K k = 1) := fun hh => by
            unfold ddX
            rw [if_neg hh]
          clear hnc hna hdo hbw
          have hln2 : (fl (ddX D K) 1 k).length ≤ 1000 := by rw [fl_len]; have := tally_le (ddX D K) 1 k; omega
          have HSz : Hid (w4.heap.size ≤ wr.heap.size) := HFo.out.sz
          cases hDk : D k
          · rw [hDk] at hdc
            by_cases hK : K k = 1
            · have HX1 : Hid (ddX D K k ≠ 1) := HMiss.out (Or.inr hK)
              rw [hK] at hkc
              clear hK hDk k0 f0
              go_wp2
              go_roundw
              case rel => exact ⟨k + 1, by omega, by go_num, hid ⟨va, vc, by rw [fl_miss HX1.out]; exact HFo.out⟩⟩
              case measure => simp [intOf]; omega
            · have HX1 : Hid (ddX D K k = 1) := HHit.out (fun hh => hh.elim (fun h => by rw [hDk] at h; cases h) hK)
              have hK' : (K k != 1) = true := by rw [bne_iff_ne]; exact hK
              generalize K k = kk at *
              clear hK hDk
              have HFl : Hid (fl (ddX D K) 1 (k + 1) = fl (ddX D K) 1 k ++ [(k : Int)]) := fl_hit HX1.out
              generalize hfl : fl (ddX D K) 1 k = lk at *
              clear hfl
              generalize hll : lk.length = m at *
              have HLl : Hid (lk.length = m) := hll
              have HRw : Hid (wr.ownsRow w4.heap.size 3 1 (.slice va m vc) m (vals lk)) := by
                have := HFo.out.row
                rw [hll] at this
                exact this
              clear hll
              go_wp2_with (at_builtin; refine wpList_append_own_at _ rfl _ _ 26 rfl w4.heap.size 3 i0 (.int .i64 0) 1 8 Try.underlying26 HI.out.1 HI.out.2.1 HI.out.2.2.1 HI.out.2.2.2 rfl (by decide) _ _ _ rfl (HRw.out.alloc _) ⟨wr.heap.size, 0, none⟩ 1 1 [.int .i64 k] rfl rfl (cell_one_new _ _ _) (ints_oneCell .i64 [(k : Int)]) (by unfold maxLen; omega) (by omega) (by have := HSz.out; simp; omega) ?_; intro v' w9 hown9 hgrow9 _ _; obtain ⟨⟨a9, c9, rfl⟩, j0, j1, H9⟩ := Fo.app HFo.out (by omega) (by omega) (by rw [HLl.out]; exact hown9) hgrow9; clear hown9 hgrow9)
              go_roundw
              case rel => exact ⟨k + 1, by omega, by go_num, hid ⟨a9, c9, by rw [HFl.out, List.length_append, List.length_singleton]; exact H9.out⟩⟩
              case measure => simp [intOf]; omega
          · have HX1 : Hid (ddX D K k ≠ 1) := HMiss.out (Or.inl hDk)
            rw [hDk] at hdc
            clear hDk k0 f0
            go_wp2
            go_roundw
            case rel => exact ⟨k + 1, by omega, by go_num, hid ⟨va, vc, by rw [fl_miss HX1.out]; exact HFo.out⟩⟩
            case measure => simp [intOf]; omega
        · obtain rfl : k = N := by omega
          obtain ⟨w6, e6⟩ : ∃ x, x = wr := ⟨_, rfl⟩
          subst e6
          have HF6 : Hid (Fo w1 w4 w6 (w1.heap.size + 1) (.slice va d.length vc) d (-1) (-1)) := by
            have := HFo.out
            rw [HDe.out] at this
            exact this
          clear HFo HGr hdo hbw p0 s0 s1 x0
          go_wp2
          clear n0 hbig
          go_loopw [14] (fun i wr => ∃ (lo : Nat) (z : Int), lo ≤ r ∧ i = .int .i64 z ∧ Hid (z = (lo : Int) - 1) ∧ Hid (∃ t1 t2, Fo w1 w4 wr (w1.heap.size + 1) (.slice va d.length vc) d t1 t2 ∧ FsFrom (fun i => L i = 0 ∧ zB F (Y i) = false) lo r t1 ∧ FsFrom (NvP r F L Z Y) lo r t2)) (fun i _ => (intOf i + 1).toNat)
          case atStart => exact ⟨r, (r : Int) - 1, Nat.le_refl _, rfl, hid rfl, hid ⟨-1, -1, HF6.out, FsFrom.start, FsFrom.start⟩⟩
          case round =>
            clear HF6
            obtain ⟨lo, z, hlo, rfl, HZ, hX⟩ := hrel
            obtain ⟨t1, t2, hFo, hP1, hP2⟩ := hX.out
            have HFo : Hid (Fo w1 w4 wr (w1.heap.size + 1) (.slice va d.length vc) d t1 t2) := hFo
            obtain ⟨⟨p0, s0, s1, n0, x0⟩, hgr, _, hbw, _, hbig⟩ := HFc.out wr _ _ _ _ hFo
            have HBw : Hid (Below w.heap.size w wr) := hbw
            have HT1s : Hid (FsFrom (fun i => L i = 0 ∧ zB F (Y i) = false) lo r t1) := hP1
            have HT2l : Hid (FsFrom (NvP r F L Z Y) lo r t2) := hP2
            clear hX hFo hP1 hP2 hgr hbw
            cases lo with
            | zero =>
              obtain rfl : z = -1 := by have := HZ.out; omega
              have e1 : t1 = r1 := (HT1s.out.all).uniq HF1.out
              have e2 : t2 = r2 := (HT2l.out.all).uniq HF2.out
              subst e1
              subst e2
              obtain ⟨w7, e7⟩ : ∃ x, x = wr := ⟨_, rfl⟩
              subst e7
              have HC32 : Hid (∀ mk l, ToIs r L S Z mk l → ∀ u, Below w7.heap.size w7 u → Calls Try.prog 32 #[.int .i64 mk, .pointer (some ⟨w1.heap.size, 0, none⟩), .pointer (some ⟨w1.heap.size + 1 + 1 + 1 + 1, 0, none⟩), .pointer (some ⟨w.heap.size + 1, 0, none⟩)] u fun e w' => (∃ (a : Option Addr) (c : Nat), e = .returned (.slice a l.length c) ∧ w'.ownsRow u.heap.size 3 1 (.slice a l.length c) l.length (vals l)) ∧ Below u.heap.size u w') := fun mk l hto u hu => by
                obtain ⟨⟨_, _, g1, g2, g3⟩, g4, _, g5, _, _⟩ := HFc.out u _ _ _ _ (HFo.out.below hu)
                exact lead_any (by omega) g2 g3 g1 (HX.out.below g5) g4 (fun j hj => by have := HL.out j hj; omega) HErr.out hto
              have CA : Hid (∀ u, Below w7.heap.size w7 u → Calls Try.prog 32 #[.int .i64 t1, .pointer (some ⟨w1.heap.size, 0, none⟩), .pointer (some ⟨w1.heap.size + 1 + 1 + 1 + 1, 0, none⟩), .pointer (some ⟨w.heap.size + 1, 0, none⟩)] u fun e w' => (∃ (a : Option Addr) (c : Nat), e = .returned (.slice a l1.length c) ∧ w'.ownsRow u.heap.size 3 1 (.slice a l1.length c) l1.length (vals l1)) ∧ Below u.heap.size u w') := HC32.out t1 l1 HT1.out
              have CB : Hid (∀ u, Below w7.heap.size w7 u → Calls Try.prog 32 #[.int .i64 t2, .pointer (some ⟨w1.heap.size, 0, none⟩), .pointer (some ⟨w1.heap.size + 1 + 1 + 1 + 1, 0, none⟩), .pointer (some ⟨w.heap.size + 1, 0, none⟩)] u fun e w' => (∃ (a : Option Addr) (c : Nat), e = .returned (.slice a l2.length c) ∧ w'.ownsRow u.heap.size 3 1 (.slice a l2.length c) l2.length (vals l2)) ∧ Below u.heap.size u w') := HC32.out t2 l2 HT2.out
              obtain ⟨⟨_, y1, y2, _, _⟩, _⟩ := fin5_cells HFo.out.out
              clear HC32 p0 s0 s1 n0 x0 hbig HT1s HT2l HFc
              go_upto_region 33 with fail
              go_cut [] from 161 to 170 (fun wc => Hid (Fe w1 wc (w1.heap.size + 1) d l1 l2 t1 t2))
              case first =>
                go_region_held3 (fun z => z.cell? ⟨w1.heap.size + 1, 1, none⟩ = some (.int .i64 t1) ∧ z.cell? ⟨w1.heap.size + 1, 2, none⟩ = some (.int .i64 t2))
                  (first | (with_reducible exact ⟨m1, m2⟩) | (with_reducible exact ⟨k1, k2⟩) | (with_reducible exact ⟨j1, j2⟩) | (with_reducible exact ⟨i1, i2⟩) | (with_reducible exact ⟨(World.cell?_drew _ _).trans y1, (World.cell?_drew _ _).trans y2⟩) | go_keep)
                  (first
                    | (go_at_call_of 32 (Value.int .i64 t1); refine (CA.out _ (below_drew_iff.2 (Below.refl _ _))).mono ?_; rintro e w8 ⟨⟨a3, c3, rfl, ho8⟩, hb8⟩; have hw8 : Below w7.heap.size w7 w8 := (below_drew_iff.2 (Below.refl _ _)).trans hb8; obtain ⟨⟨_, i1, i2, _, _⟩, _⟩ := fin5_cells (HFo.out.below hw8).out; dsimp only)
                    | (go_at_call_of 32 (Value.int .i64 t2); refine (CB.out _ hw8).mono ?_; rintro e w9 ⟨⟨a4, c4, rfl, ho9⟩, hb9⟩; have hw9 : Below w7.heap.size w7 w9 := hw8.trans (hb9.mono hw8.size); have HF9 : Hid (Fo w1 w4 w9 (w1.heap.size + 1) (.slice va d.length vc) d t1 t2) := HFo.out.below hw9; obtain ⟨⟨_, j1, j2, j3, j4⟩, ⟨_, _, _, f3, f4⟩⟩ := fin5_cells HF9.out.out; have k1 := (fe_cell3 HF9.out.out (v := .slice a3 l1.length c3)).1; have k2 := (fe_cell3 HF9.out.out (v := .slice a3 l1.length c3)).2.1; have k4 := (fe_cell3 HF9.out.out (v := .slice a3 l1.length c3)).2.2.1; have g4 := (fe_cell3 HF9.out.out (v := .slice a3 l1.length c3)).2.2.2; have m1 := (fe_cell4 HF9.out.out (v := .slice a3 l1.length c3) (v' := .slice a4 l2.length c4)).1; have m2 := (fe_cell4 HF9.out.out (v := .slice a3 l1.length c3) (v' := .slice a4 l2.length c4)).2; dsimp only)
                    | fail)
                all_goals go_wp2_with fail
                all_goals go_meet
                all_goals exact hid (fe_of HF9.out (by omega) (below_ownsRow ho8 hb9) (owns_base ho9 hw8.size))
              obtain ⟨va', a3, a4, vc', c3, c4, hfe, hbe, hr0, hr3, hr4⟩ := hcut.out
              have HFe : Hid (Fin5 wc (w1.heap.size + 1) (.slice va' d.length vc') (.int .i64 t1) (.int .i64 t2) (.slice a3 l1.length c3) (.slice a4 l2.length c4) ∧ Below w1.heap.size w1 wc ∧ wc.ownsRow 0 3 1 (.slice va' d.length vc') d.length (vals d) ∧ wc.ownsRow 0 3 1 (.slice a3 l1.length c3) l1.length (vals l1) ∧ wc.ownsRow 0 3 1 (.slice a4 l2.length c4) l2.length (vals l2)) := ⟨hfe, hbe, hr0, hr3, hr4⟩
              obtain ⟨⟨q0, q1, q2, q3, q4⟩, _⟩ := fin5_cells hfe
              have hbW : Below W0.heap.size W0 wc := HB1.out.1.trans (hbe.mono HB1.out.1.size)
              obtain ⟨_, _, _, hres⟩ := HBx.out wc hbW
              have HRes : Hid (Fin5 wc (w.heap.size + 1 + 1) (.slice none 0 0) (.int .i64 0) (.int .i64 0) (.slice none 0 0) (.slice none 0 0) ∧ Below w.heap.size w wc) := ⟨hres, HB1.out.2.trans (hbe.mono HB1.out.2.size)⟩
              obtain ⟨⟨z0, z1, z2, z3, z4⟩, ⟨x0, x1, x2, x3, x4⟩⟩ := fin5_cells hres
              clear hcut hfe hbe hr0 hr3 hr4 hbW hres y1 y2 CA CB
              generalize hdl : d.length = dn at *
              generalize hl1 : l1.length = ln1 at *
              generalize hl2 : l2.length = ln2 at *
              go_wp2
              (try simp only [Exit.inBlock, Exit.then])
              refine bodyPost_ret (results_cell_row rfl _ _ (w.heap.size + 1 + 1) 28 #[.slice va' dn vc', .int .i64 t1, .int .i64 t2, .slice a3 ln1 c3, .slice a4 ln2 c4] (0, 0) _ rfl (fin5_set HRes.out.1) Try.underlying28 rfl (by kernel_rfl)) rfl ?_
              subst hdl
              subst hl1
              subst hl2
              refine ⟨five_below HRes.out.2 (by omega), va', a3, a4, vc', c3, c4, rfl, ?_, ?_, ?_⟩
              · exact own_row' rfl (row_kp (L := [some 3]) HFe.out.2.2.1 (fin5_kp HRes.out.1 (by decide)) (by decide))
              · exact own_row' rfl (row_kp (L := [some 3]) HFe.out.2.2.2.1 (fin5_kp HRes.out.1 (by decide)) (by decide))
              · exact own_row' rfl (row_kp (L := [some 3]) HFe.out.2.2.2.2 (fin5_kp HRes.out.1 (by decide)) (by decide))
            | succ q =>
              obtain rfl : z = (q : Int) := by have := HZ.out; omega
              have hqr : q < r := by omega
              have hqz : (q : Int) < r := by omega
              have hq0 : (0 : Int) ≤ (q : Int) := by omega
              have HT2s : Hid (FsFrom (NvP r F L Z Y) (q + 1) r t2) := HT2l.out
              obtain ⟨b, o, ha, hc⟩ := HX.out.below HBw.out
              obtain rfl := ha (by omega)
              obtain ⟨ea, ec, hck, _⟩ := hc q hqr
              obtain ⟨mb, mo, hma, hmc⟩ := HMk.out.below HBw.out
              obtain rfl := hma (by omega)
              obtain ⟨ra, rc, hmk, hrow⟩ := hmc q hqr
              have CZ : Hid (Calls Try.prog 30 #[.slice ra F rc] wr fun e w' => e = .returned (.bool (zB F (Y q))) ∧ w' = wr) := zero_any (by omega) hrow
              have hLq := HL.out q hqr
              clear ha hc hma hmc hrow
              by_cases hl0 : L q = 0
              · rw [hl0] at hck
                cases hz : zB F (Y q)
                · have HP : Hid (FsFrom (fun i => L i = 0 ∧ zB F (Y i) = false) q r q) := FsFrom.hit hqr ⟨hl0, hz⟩
                  rw [hz] at CZ
                  obtain ⟨⟨_, k1, _⟩, ⟨_, f1, _⟩⟩ := fin5_cells HFo.out.out
                  have HF9 : Hid (Fo w1 w4 (wr.setCell ⟨w1.heap.size + 1, 1, none⟩ (.int .i64 q)) (w1.heap.size + 1) (.slice va d.length vc) d q t2) := HFo.out.set1 (by omega) q
                  have hr8 : w1.heap.size + 1 < wr.heap.size := by omega
                  clear hl0 hz
                  go_wp2_with fail
                  refine CZ.out.mono ?_
                  rintro e w8 ⟨rfl, rfl⟩
                  go_upto_region 24 with fail
                  clear p0 s0 s1 n0 x0 hbig hck hmk k1 f1 CZ HT1s
                  have hFq := HF9.out
                  have hP1 := HP.out
                  clear HF9 HP HFo HBw
                  generalize w8.setCell ⟨w1.heap.size + 1, 1, none⟩ (.int .i64 (q : Int)) = wq at *
                  clear t1
                  obtain ⟨t1, et1⟩ : ∃ x : Int, x = q := ⟨_, rfl⟩
                  rw [← et1] at hFq hP1
                  clear et1
                  have HFq : Hid (Fo w1 w4 wq (w1.heap.size + 1) (.slice va d.length vc) d t1 t2 ∧ FsFrom (fun i => L i = 0 ∧ zB F (Y i) = false) q r t1) := ⟨hFq, hP1⟩
                  obtain ⟨⟨p0, s0, s1, n0, x0⟩, hgr, _, hbw, _, hbig⟩ := HFc.out wq _ _ _ _ hFq
                  obtain ⟨U, eU⟩ : ∃ x, x = wq.alloc (.cells #[.int .i64 (q : Int)] 3) := ⟨_, rfl⟩
                  have HEU : Hid (wq.alloc (.cells #[.int .i64 (q : Int)] 3) = U) := eU.symm
                  have HBU : Hid (Below wq.heap.size wq U ∧ U.heap.size = wq.heap.size + 1) := by subst eU; exact ⟨box_below _ _, by simp⟩
                  have CC : Hid (Calls Try.prog 31 #[.slice (some ⟨w1.heap.size + 1 + 1 + 1, 0, none⟩) r r, .slice (some ⟨wq.heap.size, 0, none⟩) 1 1] U fun e w' => ∃ R : Nat → Bool, e = .returned (.slice (some ⟨wq.heap.size + 1, 0, none⟩) r r) ∧ Below wq.heap.size wq w' ∧ (∀ x, x < r → w'.cell? ⟨wq.heap.size + 1, x, none⟩ = some (.bool (R x))) ∧ ∀ x, x < r → (R x = true ↔ RchG (Ego r L Z) q x)) := by
                    have hrow : Row U (some ⟨wq.heap.size, 0, none⟩) 1 (fun _ => (q : Int)) := by subst eU; exact box_row wq q
                    refine (refComes_any _ r r L Z _ 1 1 (fun _ => (q : Int)) U (fun j hj => by have := HL.out j hj; omega) (by omega) (hgr.below HBU.out.1) hrow (errF_one HErr.out hqr)).mono ?_
                    rintro e w' ⟨R, rfl, hb, hrw, hR⟩
                    rw [HBU.out.2] at hrw ⊢
                    exact ⟨R, rfl, HBU.out.1.trans (hb.mono HBU.out.1.size), fun x hx => hrw.cell hx, fun x hx => by rw [hR x hx, comes_one]⟩
                  clear eU hFq hP1 hgr
                  go_wp2_with fail
                  rw [HEU.out]
                  refine CC.out.mono ?_
                  rintro e w5 ⟨R, rfl, hb5, hrow, hR⟩
                  have HF5 : Hid (Fo w1 w4 w5 (w1.heap.size + 1) (.slice va d.length vc) d t1 t2) := HFq.out.1.below hb5
                  have HRw : Hid (∀ x, x < r → w5.cell? ⟨wq.heap.size + 1, x, none⟩ = some (.bool (R x))) := hrow
                  have HRr : Hid (∀ x, x < r → (R x = true ↔ RchG (Ego r L Z) q x)) := hR
                  clear p0 s0 s1 n0 x0 hbw hbig hb5 hrow hR CC
                  obtain ⟨⟨p0, s0, s1, n0, x0⟩, hgr, _, hbw, _, hbig⟩ := HFc.out w5 _ _ _ _ HF5.out
                  have HMw : Hid (∀ j, j < r → ∃ ra rc, w5.cell? ⟨mb, mo + j, none⟩ = some (.slice ra F rc) ∧ Row w5 ra F (Y j)) := fun j hj => by
                    obtain ⟨mb', mo', hma, hmc⟩ := HMk.out.below hbw
                    have e := hma (by omega)
                    simp only [Option.some.injEq, Addr.mk.injEq] at e
                    obtain ⟨rfl, rfl, _⟩ := e
                    exact hmc j hj
                  have HP2 : Hid (∀ bb : Bool, (bb = true ↔ ∃ x, x < r ∧ R x = true ∧ zB F (Y x) = true) → (bb = true ↔ ¬ NvP r F L Z Y q)) := fun bb hbb => by
                    rw [hbb]
                    unfold NvP
                    constructor
                    · rintro ⟨x, g1, g2, g3⟩ hn
                      exact hn ⟨x, g1, g3, (HRr.out x g1).1 g2⟩
                    · intro hn
                      obtain ⟨x, g1, g2, g3⟩ := Classical.byContradiction hn
                      exact ⟨x, g1, (HRr.out x g1).2 g3, g2⟩
                  clear hgr hbw
                  go_wp2
                  go_loopw [15, 17] (fun m i wr => ∃ (j : Nat) (bb : Bool), j ≤ r ∧ m = .bool bb ∧ i = .int .i64 j ∧ Hid (bb = true ↔ ∃ x, x < j ∧ R x = true ∧ zB F (Y x) = true) ∧ wr = w5) (fun _ i _ => r - (intOf i).toNat)
                  case atStart => exact ⟨0, false, Nat.zero_le _, rfl, rfl, hid ⟨fun h => (by cases h), fun ⟨x, h, _⟩ => (by omega)⟩, rfl⟩
                  case round =>
                    obtain ⟨j, bb, hj, rfl, rfl, HBb, rfl⟩ := hrel
                    by_cases hjr : j < r
                    · have hjz : (j : Int) < r := by omega
                      obtain ⟨ra, rc, hmj, hrj⟩ := HMw.out j hjr
                      have hsj := HRw.out j hjr
                      have HYes : Hid (R j = true → zB F (Y j) = true → (true = true ↔ ∃ x, x < j + 1 ∧ R x = true ∧ zB F (Y x) = true)) := fun g1 g2 => ⟨fun _ => ⟨j, by omega, g1, g2⟩, fun _ => rfl⟩
                      have HNo : Hid (¬ (R j = true ∧ zB F (Y j) = true) → (bb = true ↔ ∃ x, x < j + 1 ∧ R x = true ∧ zB F (Y x) = true)) := fun g => by
                        rw [HBb.out]
                        constructor
                        · rintro ⟨x, g1, g2⟩
                          exact ⟨x, by omega, g2⟩
                        · rintro ⟨x, g1, g2⟩
                          refine ⟨x, ?_, g2⟩
                          by_cases e : x = j
                          · subst e
                            exact absurd g2 g
                          · omega
                      have HSt : Hid (bb = true → (bb = true ↔ ∃ x, x < j + 1 ∧ R x = true ∧ zB F (Y x) = true)) := fun g => by
                        obtain ⟨x, g1, g2⟩ := HBb.out.1 g
                        exact ⟨fun _ => ⟨x, by omega, g2⟩, fun _ => g⟩
                      have CZ : Hid (Calls Try.prog 30 #[.slice ra F rc] wr fun e w' => e = .returned (.bool (zB F (Y j))) ∧ w' = wr) := zero_any (by omega) hrj
                      clear hrj
                      cases hbb : bb
                      · subst hbb
                        cases hRj : R j
                        · have HN : Hid (¬ ∃ x, x < j + 1 ∧ R x = true ∧ zB F (Y x) = true) := fun hh => by have := (HNo.out (fun g => by rw [hRj] at g; cases g.1)).2 hh; cases this
                          rw [hRj] at hsj
                          clear hRj
                          go_wp2
                          go_roundw
                          case rel => exact ⟨j + 1, false, by omega, rfl, by go_num, hid ⟨fun h => (by cases h), fun h => absurd h HN.out⟩, trivial⟩
                          case measure => simp [intOf]; omega
                        · rw [hRj] at hsj
                          cases hzj : zB F (Y j)
                          · have HN : Hid (¬ ∃ x, x < j + 1 ∧ R x = true ∧ zB F (Y x) = true) := fun hh => by have := (HNo.out (fun g => by rw [hzj] at g; cases g.2)).2 hh; cases this
                            rw [hzj] at CZ
                            clear hRj hzj
                            go_wp2_with fail
                            refine CZ.out.mono ?_
                            rintro e w8 ⟨rfl, rfl⟩
                            go_wp2
                            go_roundw
                            case rel => exact ⟨j + 1, false, by omega, rfl, by go_num, hid ⟨fun h => (by cases h), fun h => absurd h HN.out⟩, trivial⟩
                            case measure => simp [intOf]; omega
                          · have HN : Hid (∃ x, x < j + 1 ∧ R x = true ∧ zB F (Y x) = true) := (HYes.out hRj hzj).1 rfl
                            rw [hzj] at CZ
                            clear hRj hzj
                            go_wp2_with fail
                            refine CZ.out.mono ?_
                            rintro e w8 ⟨rfl, rfl⟩
                            go_wp2
                            go_roundw
                            case rel => exact ⟨j + 1, true, by omega, rfl, by go_num, hid ⟨fun _ => HN.out, fun _ => rfl⟩, trivial⟩
                            case measure => simp [intOf]; omega
                      · subst hbb
                        have HN : Hid (∃ x, x < j + 1 ∧ R x = true ∧ zB F (Y x) = true) := (HSt.out rfl).1 rfl
                        generalize R j = rj at *
                        go_wp2
                        go_roundw
                        case rel => exact ⟨j + 1, true, by omega, rfl, by go_num, hid ⟨fun _ => HN.out, fun _ => rfl⟩, trivial⟩
                        case measure => simp [intOf]; omega
                    · obtain rfl : j = r := by omega
                      have HB2 : Hid (bb = true ↔ ¬ NvP j F L Z Y q) := HP2.out bb HBb.out
                      obtain ⟨⟨_, _, k2, _⟩, ⟨_, _, f2, _⟩⟩ := fin5_cells HF5.out.out
                      have hr8 : w1.heap.size + 1 < wr.heap.size := by omega
                      cases hbb : bb
                      · subst hbb
                        have HNv : Hid (FsFrom (NvP j F L Z Y) q j q) := FsFrom.hit hqr (Classical.byContradiction fun g => by have := HB2.out.2 g; cases this)
                        have HF8 : Hid (Fo w1 w4 (wr.setCell ⟨w1.heap.size + 1, 2, none⟩ (.int .i64 q)) (w1.heap.size + 1) (.slice va d.length vc) d t1 q) := HF5.out.set2 (by omega) q
                        go_wp2
                        go_roundw
                        case rel => exact ⟨q, (q : Int) - 1, by omega, by go_num, hid rfl, hid ⟨t1, q, HF8.out, HFq.out.2, HNv.out⟩⟩
                        case measure => simp [intOf] <;> omega
                      · subst hbb
                        have HNv : Hid (FsFrom (NvP j F L Z Y) q j t2) := FsFrom.miss (HB2.out.1 rfl) HT2s.out
                        go_wp2
                        go_roundw
                        case rel => exact ⟨q, (q : Int) - 1, by omega, by go_num, hid rfl, hid ⟨t1, t2, HF5.out, HFq.out.2, HNv.out⟩⟩
                        case measure => simp [intOf] <;> omega
                · have HP : Hid (FsFrom (fun i => L i = 0 ∧ zB F (Y i) = false) q r t1) := FsFrom.miss (fun hh => by rw [hz] at hh; cases hh.2) HT1s.out
                  rw [hz] at CZ
                  clear hl0 hz
                  go_wp2_with fail
                  refine CZ.out.mono ?_
                  rintro e w8 ⟨rfl, rfl⟩
                  go_upto_region 24 with fail
                  clear p0 s0 s1 n0 x0 hbig hck hmk CZ HT1s
                  have hFq := HFo.out
                  have hP1 := HP.out
                  clear HP HFo HBw
                  obtain ⟨wq, eq⟩ : ∃ x, x = w8 := ⟨_, rfl⟩
                  subst eq
                  have HFq : Hid (Fo w1 w4 wq (w1.heap.size + 1) (.slice va d.length vc) d t1 t2 ∧ FsFrom (fun i => L i = 0 ∧ zB F (Y i) = false) q r t1) := ⟨hFq, hP1⟩
                  obtain ⟨⟨p0, s0, s1, n0, x0⟩, hgr, _, hbw, _, hbig⟩ := HFc.out wq _ _ _ _ hFq
                  obtain ⟨U, eU⟩ : ∃ x, x = wq.alloc (.cells #[.int .i64 (q : Int)] 3) := ⟨_, rfl⟩
                  have HEU : Hid (wq.alloc (.cells #[.int .i64 (q : Int)] 3) = U) := eU.symm
                  have HBU : Hid (Below wq.heap.size wq U ∧ U.heap.size = wq.heap.size + 1) := by subst eU; exact ⟨box_below _ _, by simp⟩
                  have CC : Hid (Calls Try.prog 31 #[.slice (some ⟨w1.heap.size + 1 + 1 + 1, 0, none⟩) r r, .slice (some ⟨wq.heap.size, 0, none⟩) 1 1] U fun e w' => ∃ R : Nat → Bool, e = .returned (.slice (some ⟨wq.heap.size + 1, 0, none⟩) r r) ∧ Below wq.heap.size wq w' ∧ (∀ x, x < r → w'.cell? ⟨wq.heap.size + 1, x, none⟩ = some (.bool (R x))) ∧ ∀ x, x < r → (R x = true ↔ RchG (Ego r L Z) q x)) := by
                    have hrow : Row U (some ⟨wq.heap.size, 0, none⟩) 1 (fun _ => (q : Int)) := by subst eU; exact box_row wq q
                    refine (refComes_any _ r r L Z _ 1 1 (fun _ => (q : Int)) U (fun j hj => by have := HL.out j hj; omega) (by omega) (hgr.below HBU.out.1) hrow (errF_one HErr.out hqr)).mono ?_
                    rintro e w' ⟨R, rfl, hb, hrw, hR⟩
                    rw [HBU.out.2] at hrw ⊢
                    exact ⟨R, rfl, HBU.out.1.trans (hb.mono HBU.out.1.size), fun x hx => hrw.cell hx, fun x hx => by rw [hR x hx, comes_one]⟩
                  clear eU hFq hP1 hgr
                  go_wp2_with fail
                  rw [HEU.out]
                  refine CC.out.mono ?_
                  rintro e w5 ⟨R, rfl, hb5, hrow, hR⟩
                  have HF5 : Hid (Fo w1 w4 w5 (w1.heap.size + 1) (.slice va d.length vc) d t1 t2) := HFq.out.1.below hb5
                  have HRw : Hid (∀ x, x < r → w5.cell? ⟨wq.heap.size + 1, x, none⟩ = some (.bool (R x))) := hrow
                  have HRr : Hid (∀ x, x < r → (R x = true ↔ RchG (Ego r L Z) q x)) := hR
                  clear p0 s0 s1 n0 x0 hbw hbig hb5 hrow hR CC
                  obtain ⟨⟨p0, s0, s1, n0, x0⟩, hgr, _, hbw, _, hbig⟩ := HFc.out w5 _ _ _ _ HF5.out
                  have HMw : Hid (∀ j, j < r → ∃ ra rc, w5.cell? ⟨mb, mo + j, none⟩ = some (.slice ra F rc) ∧ Row w5 ra F (Y j)) := fun j hj => by
                    obtain ⟨mb', mo', hma, hmc⟩ := HMk.out.below hbw
                    have e := hma (by omega)
                    simp only [Option.some.injEq, Addr.mk.injEq] at e
                    obtain ⟨rfl, rfl, _⟩ := e
                    exact hmc j hj
                  have HP2 : Hid (∀ bb : Bool, (bb = true ↔ ∃ x, x < r ∧ R x = true ∧ zB F (Y x) = true) → (bb = true ↔ ¬ NvP r F L Z Y q)) := fun bb hbb => by
                    rw [hbb]
                    unfold NvP
                    constructor
                    · rintro ⟨x, g1, g2, g3⟩ hn
                      exact hn ⟨x, g1, g3, (HRr.out x g1).1 g2⟩
                    · intro hn
                      obtain ⟨x, g1, g2, g3⟩ := Classical.byContradiction hn
                      exact ⟨x, g1, (HRr.out x g1).2 g3, g2⟩
                  clear hgr hbw
                  go_wp2
                  go_loopw [15, 17] (fun m i wr => ∃ (j : Nat) (bb : Bool), j ≤ r ∧ m = .bool bb ∧ i = .int .i64 j ∧ Hid (bb = true ↔ ∃ x, x < j ∧ R x = true ∧ zB F (Y x) = true) ∧ wr = w5) (fun _ i _ => r - (intOf i).toNat)
                  case atStart => exact ⟨0, false, Nat.zero_le _, rfl, rfl, hid ⟨fun h => (by cases h), fun ⟨x, h, _⟩ => (by omega)⟩, rfl⟩
                  case round =>
                    obtain ⟨j, bb, hj, rfl, rfl, HBb, rfl⟩ := hrel
                    by_cases hjr : j < r
                    · have hjz : (j : Int) < r := by omega
                      obtain ⟨ra, rc, hmj, hrj⟩ := HMw.out j hjr
                      have hsj := HRw.out j hjr
                      have HYes : Hid (R j = true → zB F (Y j) = true → (true = true ↔ ∃ x, x < j + 1 ∧ R x = true ∧ zB F (Y x) = true)) := fun g1 g2 => ⟨fun _ => ⟨j, by omega, g1, g2⟩, fun _ => rfl⟩
                      have HNo : Hid (¬ (R j = true ∧ zB F (Y j) = true) → (bb = true ↔ ∃ x, x < j + 1 ∧ R x = true ∧ zB F (Y x) = true)) := fun g => by
                        rw [HBb.out]
                        constructor
                        · rintro ⟨x, g1, g2⟩
                          exact ⟨x, by omega, g2⟩
                        · rintro ⟨x, g1, g2⟩
                          refine ⟨x, ?_, g2⟩
                          by_cases e : x = j
                          · subst e
                            exact absurd g2 g
                          · omega
                      have HSt : Hid (bb = true → (bb = true ↔ ∃ x, x < j + 1 ∧ R x = true ∧ zB F (Y x) = true)) := fun g => by
                        obtain ⟨x, g1, g2⟩ := HBb.out.1 g
                        exact ⟨fun _ => ⟨x, by omega, g2⟩, fun _ => g⟩
                      have CZ : Hid (Calls Try.prog 30 #[.slice ra F rc] wr fun e w' => e = .returned (.bool (zB F (Y j))) ∧ w' = wr) := zero_any (by omega) hrj
                      clear hrj
                      cases hbb : bb
                      · subst hbb
                        cases hRj : R j
                        · have HN : Hid (¬ ∃ x, x < j + 1 ∧ R x = true ∧ zB F (Y x) = true) := fun hh => by have := (HNo.out (fun g => by rw [hRj] at g; cases g.1)).2 hh; cases this
                          rw [hRj] at hsj
                          clear hRj
                          go_wp2
                          go_roundw
                          case rel => exact ⟨j + 1, false, by omega, rfl, by go_num, hid ⟨fun h => (by cases h), fun h => absurd h HN.out⟩, trivial⟩
                          case measure => simp [intOf]; omega
                        · rw [hRj] at hsj
                          cases hzj : zB F (Y j)
                          · have HN : Hid (¬ ∃ x, x < j + 1 ∧ R x = true ∧ zB F (Y x) = true) := fun hh => by have := (HNo.out (fun g => by rw [hzj] at g; cases g.2)).2 hh; cases this
                            rw [hzj] at CZ
                            clear hRj hzj
                            go_wp2_with fail
                            refine CZ.out.mono ?_
                            rintro e w8 ⟨rfl, rfl⟩
                            go_wp2
                            go_roundw
                            case rel => exact ⟨j + 1, false, by omega, rfl, by go_num, hid ⟨fun h => (by cases h), fun h => absurd h HN.out⟩, trivial⟩
                            case measure => simp [intOf]; omega
                          · have HN : Hid (∃ x, x < j + 1 ∧ R x = true ∧ zB F (Y x) = true) := (HYes.out hRj hzj).1 rfl
                            rw [hzj] at CZ
                            clear hRj hzj
                            go_wp2_with fail
                            refine CZ.out.mono ?_
                            rintro e w8 ⟨rfl, rfl⟩
                            go_wp2
                            go_roundw
                            case rel => exact ⟨j + 1, true, by omega, rfl, by go_num, hid ⟨fun _ => HN.out, fun _ => rfl⟩, trivial⟩
                            case measure => simp [intOf]; omega
                      · subst hbb
                        have HN : Hid (∃ x, x < j + 1 ∧ R x = true ∧ zB F (Y x) = true) := (HSt.out rfl).1 rfl
                        generalize R j = rj at *
                        go_wp2
                        go_roundw
                        case rel => exact ⟨j + 1, true, by omega, rfl, by go_num, hid ⟨fun _ => HN.out, fun _ => rfl⟩, trivial⟩
                        case measure => simp [intOf]; omega
                    · obtain rfl : j = r := by omega
                      have HB2 : Hid (bb = true ↔ ¬ NvP j F L Z Y q) := HP2.out bb HBb.out
                      obtain ⟨⟨_, _, k2, _⟩, ⟨_, _, f2, _⟩⟩ := fin5_cells HF5.out.out
                      have hr8 : w1.heap.size + 1 < wr.heap.size := by omega
                      cases hbb : bb
                      · subst hbb
                        have HNv : Hid (FsFrom (NvP j F L Z Y) q j q) := FsFrom.hit hqr (Classical.byContradiction fun g => by have := HB2.out.2 g; cases this)
                        have HF8 : Hid (Fo w1 w4 (wr.setCell ⟨w1.heap.size + 1, 2, none⟩ (.int .i64 q)) (w1.heap.size + 1) (.slice va d.length vc) d t1 q) := HF5.out.set2 (by omega) q
                        go_wp2
                        go_roundw
                        case rel => exact ⟨q, (q : Int) - 1, by omega, by go_num, hid rfl, hid ⟨t1, q, HF8.out, HFq.out.2, HNv.out⟩⟩
                        case measure => simp [intOf] <;> omega
                      · subst hbb
                        have HNv : Hid (FsFrom (NvP j F L Z Y) q j t2) := FsFrom.miss (HB2.out.1 rfl) HT2s.out
                        go_wp2
                        go_roundw
                        case rel => exact ⟨q, (q : Int) - 1, by omega, by go_num, hid rfl, hid ⟨t1, t2, HF5.out, HFq.out.2, HNv.out⟩⟩
                        case measure => simp [intOf] <;> omega
              · have HP : Hid (FsFrom (fun i => L i = 0 ∧ zB F (Y i) = false) q r t1) := FsFrom.miss (fun hh => hl0 hh.1) HT1s.out
                have hl' : ((L q : Int) == 0) = false := by rw [beq_eq_false_iff_ne]; omega
                generalize L q = lq at *
                clear hl0
                go_upto_region 24 with fail
                clear p0 s0 s1 n0 x0 hbig hck hmk CZ HT1s
                have hFq := HFo.out
                have hP1 := HP.out
                clear HP HFo HBw
                obtain ⟨wq, eq⟩ : ∃ x, x = wr := ⟨_, rfl⟩
                subst eq
                have HFq : Hid (Fo w1 w4 wq (w1.heap.size + 1) (.slice va d.length vc) d t1 t2 ∧ FsFrom (fun i => L i = 0 ∧ zB F (Y i) = false) q r t1) := ⟨hFq, hP1⟩
                obtain ⟨⟨p0, s0, s1, n0, x0⟩, hgr, _, hbw, _, hbig⟩ := HFc.out wq _ _ _ _ hFq
                obtain ⟨U, eU⟩ : ∃ x, x = wq.alloc (.cells #[.int .i64 (q : Int)] 3) := ⟨_, rfl⟩
                have HEU : Hid (wq.alloc (.cells #[.int .i64 (q : Int)] 3) = U) := eU.symm
                have HBU : Hid (Below wq.heap.size wq U ∧ U.heap.size = wq.heap.size + 1) := by subst eU; exact ⟨box_below _ _, by simp⟩
                have CC : Hid (Calls Try.prog 31 #[.slice (some ⟨w1.heap.size + 1 + 1 + 1, 0, none⟩) r r, .slice (some ⟨wq.heap.size, 0, none⟩) 1 1] U fun e w' => ∃ R : Nat → Bool, e = .returned (.slice (some ⟨wq.heap.size + 1, 0, none⟩) r r) ∧ Below wq.heap.size wq w' ∧ (∀ x, x < r → w'.cell? ⟨wq.heap.size + 1, x, none⟩ = some (.bool (R x))) ∧ ∀ x, x < r → (R x = true ↔ RchG (Ego r L Z) q x)) := by
                  have hrow : Row U (some ⟨wq.heap.size, 0, none⟩) 1 (fun _ => (q : Int)) := by subst eU; exact box_row wq q
                  refine (refComes_any _ r r L Z _ 1 1 (fun _ => (q : Int)) U (fun j hj => by have := HL.out j hj; omega) (by omega) (hgr.below HBU.out.1) hrow (errF_one HErr.out hqr)).mono ?_
                  rintro e w' ⟨R, rfl, hb, hrw, hR⟩
                  rw [HBU.out.2] at hrw ⊢
                  exact ⟨R, rfl, HBU.out.1.trans (hb.mono HBU.out.1.size), fun x hx => hrw.cell hx, fun x hx => by rw [hR x hx, comes_one]⟩
                clear eU hFq hP1 hgr
                go_wp2_with fail
                rw [HEU.out]
                refine CC.out.mono ?_
                rintro e w5 ⟨R, rfl, hb5, hrow, hR⟩
                have HF5 : Hid (Fo w1 w4 w5 (w1.heap.size + 1) (.slice va d.length vc) d t1 t2) := HFq.out.1.below hb5
                have HRw : Hid (∀ x, x < r → w5.cell? ⟨wq.heap.size + 1, x, none⟩ = some (.bool (R x))) := hrow
                have HRr : Hid (∀ x, x < r → (R x = true ↔ RchG (Ego r L Z) q x)) := hR
                clear p0 s0 s1 n0 x0 hbw hbig hb5 hrow hR CC
                obtain ⟨⟨p0, s0, s1, n0, x0⟩, hgr, _, hbw, _, hbig⟩ := HFc.out w5 _ _ _ _ HF5.out
                have HMw : Hid (∀ j, j < r → ∃ ra rc, w5.cell? ⟨mb, mo + j, none⟩ = some (.slice ra F rc) ∧ Row w5 ra F (Y j)) := fun j hj => by
                  obtain ⟨mb', mo', hma, hmc⟩ := HMk.out.below hbw
                  have e := hma (by omega)
                  simp only [Option.some.injEq, Addr.mk.injEq] at e
                  obtain ⟨rfl, rfl, _⟩ := e
                  exact hmc j hj
                have HP2 : Hid (∀ bb : Bool, (bb = true ↔ ∃ x, x < r ∧ R x = true ∧ zB F (Y x) = true) → (bb = true ↔ ¬ NvP r F L Z Y q)) := fun bb hbb => by
                  rw [hbb]
                  unfold NvP
                  constructor
                  · rintro ⟨x, g1, g2, g3⟩ hn
                    exact hn ⟨x, g1, g3, (HRr.out x g1).1 g2⟩
                  · intro hn
                    obtain ⟨x, g1, g2, g3⟩ := Classical.byContradiction hn
                    exact ⟨x, g1, (HRr.out x g1).2 g3, g2⟩
                clear hgr hbw
                go_wp2
                go_loopw [15, 17] (fun m i wr => ∃ (j : Nat) (bb : Bool), j ≤ r ∧ m = .bool bb ∧ i = .int .i64 j ∧ Hid (bb = true ↔ ∃ x, x < j ∧ R x = true ∧ zB F (Y x) = true) ∧ wr = w5) (fun _ i _ => r - (intOf i).toNat)
                case atStart => exact ⟨0, false, Nat.zero_le _, rfl, rfl, hid ⟨fun h => (by cases h), fun ⟨x, h, _⟩ => (by omega)⟩, rfl⟩
                case round =>
                  obtain ⟨j, bb, hj, rfl, rfl, HBb, rfl⟩ := hrel
                  by_cases hjr : j < r
                  · have hjz : (j : Int) < r := by omega
                    obtain ⟨ra, rc, hmj, hrj⟩ := HMw.out j hjr
                    have hsj := HRw.out j hjr
                    have HYes : Hid (R j = true → zB F (Y j) = true → (true = true ↔ ∃ x, x < j + 1 ∧ R x = true ∧ zB F (Y x) = true)) := fun g1 g2 => ⟨fun _ => ⟨j, by omega, g1, g2⟩, fun _ => rfl⟩
                    have HNo : Hid (¬ (R j = true ∧ zB F (Y j) = true) → (bb = true ↔ ∃ x, x < j + 1 ∧ R x = true ∧ zB F (Y x) = true)) := fun g => by
                      rw [HBb.out]
                      constructor
                      · rintro ⟨x, g1, g2⟩
                        exact ⟨x, by omega, g2⟩
                      · rintro ⟨x, g1, g2⟩
                        refine ⟨x, ?_, g2⟩
                        by_cases e : x = j
                        · subst e
                          exact absurd g2 g
                        · omega
                    have HSt : Hid (bb = true → (bb = true ↔ ∃ x, x < j + 1 ∧ R x = true ∧ zB F (Y x) = true)) := fun g => by
                      obtain ⟨x, g1, g2⟩ := HBb.out.1 g
                      exact ⟨fun _ => ⟨x, by omega, g2⟩, fun _ => g⟩
                    have CZ : Hid (Calls Try.prog 30 #[.slice ra F rc] wr fun e w' => e = .returned (.bool (zB F (Y j))) ∧ w' = wr) := zero_any (by omega) hrj
                    clear hrj
                    cases hbb : bb
                    · subst hbb
                      cases hRj : R j
                      · have HN : Hid (¬ ∃ x, x < j + 1 ∧ R x = true ∧ zB F (Y x) = true) := fun hh => by have := (HNo.out (fun g => by rw [hRj] at g; cases g.1)).2 hh; cases this
                        rw [hRj] at hsj
                        clear hRj
                        go_wp2
                        go_roundw
                        case rel => exact ⟨j + 1, false, by omega, rfl, by go_num, hid ⟨fun h => (by cases h), fun h => absurd h HN.out⟩, trivial⟩
                        case measure => simp [intOf]; omega
                      · rw [hRj] at hsj
                        cases hzj : zB F (Y j)
                        · have HN : Hid (¬ ∃ x, x < j + 1 ∧ R x = true ∧ zB F (Y x) = true) := fun hh => by have := (HNo.out (fun g => by rw [hzj] at g; cases g.2)).2 hh; cases this
                          rw [hzj] at CZ
                          clear hRj hzj
                          go_wp2_with fail
                          refine CZ.out.mono ?_
                          rintro e w8 ⟨rfl, rfl⟩
                          go_wp2
                          go_roundw
                          case rel => exact ⟨j + 1, false, by omega, rfl, by go_num, hid ⟨fun h => (by cases h), fun h => absurd h HN.out⟩, trivial⟩
                          case measure => simp [intOf]; omega
                        · have HN : Hid (∃ x, x < j + 1 ∧ R x = true ∧ zB F (Y x) = true) := (HYes.out hRj hzj).1 rfl
                          rw [hzj] at CZ
                          clear hRj hzj
                          go_wp2_with fail
                          refine CZ.out.mono ?_
                          rintro e w8 ⟨rfl, rfl⟩
                          go_wp2
                          go_roundw
                          case rel => exact ⟨j + 1, true, by omega, rfl, by go_num, hid ⟨fun _ => HN.out, fun _ => rfl⟩, trivial⟩
                          case measure => simp [intOf]; omega
                    · subst hbb
                      have HN : Hid (∃ x, x < j + 1 ∧ R x = true ∧ zB F (Y x) = true) := (HSt.out rfl).1 rfl
                      generalize R j = rj at *
                      go_wp2
                      go_roundw
                      case rel => exact ⟨j + 1, true, by omega, rfl, by go_num, hid ⟨fun _ => HN.out, fun _ => rfl⟩, trivial⟩
                      case measure => simp [intOf]; omega
                  · obtain rfl : j = r := by omega
                    have HB2 : Hid (bb = true ↔ ¬ NvP j F L Z Y q) := HP2.out bb HBb.out
                    obtain ⟨⟨_, _, k2, _⟩, ⟨_, _, f2, _⟩⟩ := fin5_cells HF5.out.out
                    have hr8 : w1.heap.size + 1 < wr.heap.size := by omega
                    cases hbb : bb
                    · subst hbb
                      have HNv : Hid (FsFrom (NvP j F L Z Y) q j q) := FsFrom.hit hqr (Classical.byContradiction fun g => by have := HB2.out.2 g; cases this)
                      have HF8 : Hid (Fo w1 w4 (wr.setCell ⟨w1.heap.size + 1, 2, none⟩ (.int .i64 q)) (w1.heap.size + 1) (.slice va d.length vc) d t1 q) := HF5.out.set2 (by omega) q
                      go_wp2
                      go_roundw
                      case rel => exact ⟨q, (q : Int) - 1, by omega, by go_num, hid rfl, hid ⟨t1, q, HF8.out, HFq.out.2, HNv.out⟩⟩
                      case measure => simp [intOf] <;> omega
                    · subst hbb
                      have HNv : Hid (FsFrom (NvP j F L Z Y) q j t2) := FsFrom.miss (HB2.out.1 rfl) HT2s.out
                      go_wp2
                      go_roundw
                      case rel => exact ⟨q, (q : Int) - 1, by omega, by go_num, hid rfl, hid ⟨t1, t2, HF5.out, HFq.out.2, HNv.out⟩⟩
                      case measure => simp [intOf] <;> omega

end Go.Proofs.Ytjenkhphngiphaa
