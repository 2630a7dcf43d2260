/- write, Print. -/
import Derived.Test.YtgpjlgffmlkkoaaDoorPrn2
namespace Go.Proofs.YtgpjlgffmlkkoaaDoor
open Go.RowKit

theorem wf_cnt {t : Fml} (h : fit t = true) : t.cnt = 0 ∨ t.cnt = 1 ∨ t.cnt = 2 := by
  have h1 := (fit_kind h).2.2
  unfold ar at h1
  split at h1
  · omega
  · split at h1
    · omega
    · split at h1 <;> omega

theorem sz_pos (t : Fml) : 1 ≤ sz t := by rw [sz_eq]; omega

set_option maxHeartbeats 2000000 in
theorem write_any {w0 : World} {na : Option Addr} {N nc : Nat} {M : Nat → ByteArray} (hS : Sta w0 na N nc M) : ∀ t : Fml, WrtOk w0 na N nc M t := by
  intro t
  induction t using Fml.ind with
  | h t ih =>
  intro a cap B b l w hK hW hB hBB hbd hBw hl
  have hf := hW.out.1
  have hcn : t.cnt ≤ 9223372036854775807 := by have := wf_cnt hf; omega
  obtain ⟨k1, k2, k3⟩ := fit_kind hf
  obtain ⟨q, hq⟩ : ∃ q : Nat, t.kind = q := ⟨t.kind.toNat, by omega⟩
  have hx := bx_new w t a cap
  have hwl := fun (a : Option Addr) (cap B b : Nat) (l : List UInt8) (w : World) => writeLeaf_any hS t a cap B b l w
  have hwk := fun (a : Option Addr) (cap B b i : Nat) (l : List UInt8) (w : World) => writeKid_any hS t a cap B b i l w
  have htx := tx_eq N M t
  have hnm := nmd_eq N M t
  have hszt := sz_eq t
  have hBxc : ∀ w x, Bx w x t a cap → w.cell? ⟨x, 0, none⟩ = some (.int .i64 t.kind) ∧ w.cell? ⟨x, 1, none⟩ = some (.int .i64 t.num) ∧ w.cell? ⟨x, 2, none⟩ = some (.slice a t.cnt cap) := fun w x h => ⟨h.c0, h.c1, h.c2⟩
  rw [hq] at hx hwl hwk htx hnm hBxc ⊢
  have hqn : ((q : Int)).toNat = q := by omega
  rw [hqn] at htx
  have hwc := wf_cnt hf
  generalize hnn : t.num = n at *
  generalize hcc : t.cnt = c at *
  generalize hkd : t.kid = kid at *
  have HBxc := hid hBxc
  obtain ⟨w1, hw1⟩ : ∃ y, y = w.alloc (.cells #[.int .i64 (q : Int), .int .i64 n, .slice a c cap] 24) := ⟨_, rfl⟩
  have W1 : Wr B b w w1 l := by rw [hw1]; exact Wr.alloc hbd hBw _
  have hx1 : Bx w1 w.heap.size t a cap := by rw [hw1]; exact hx
  have hB1 : Below w0.heap.size w0 w1 := hB.trans (W1.2.1.mono hBB)
  have hB1w : B ≤ w1.heap.size := Nat.le_trans hBw W1.size
  have hbne : w.heap.size ≠ b := by have := bd_lt hbd; omega
  have hsg : ∀ u : World, Below w0.heap.size w0 u → u.cell? ⟨0, q, none⟩ = some (.string (sg q)) := fun u hu => hS.sg.below hu (by have := hS.four; omega) q (by omega)
  have hsz0 : 0 < w.heap.size := World.block_lt_of_cell? _ _ (hsg w hB)
  have HX : Hid (Wr B b w w1 l ∧ Bx w1 w.heap.size t a cap ∧ Below w0.heap.size w0 w1 ∧ B ≤ w1.heap.size) := ⟨W1, hx1, hB1, hB1w⟩
  have HE : Hid (w1 = w.alloc (.cells #[.int .i64 (q : Int), .int .i64 n, .slice a c cap] 24)) := hw1
  have HBB : Hid (w0.heap.size ≤ B ∧ w.heap.size ≠ b) := ⟨hBB, hbne⟩
  have hq12 : (q : Int) < 12 := by omega
  show Calls Tryd.prog 19 #[.pointer (some ⟨b, 0, none⟩), .agg #[.int .i64 (q : Int), .int .i64 n, .slice a c cap], .slice na N nc] w fun e w' => e = .returned (.bool (nmd N M t)) ∧ Wr B b w w' (l ++ tx N M t)
  have HSG := hid hsg
  rcases hwc with h0 | h0 | h0
  · subst h0
    have C : Hid (Calls Tryd.prog 31 #[.pointer (some ⟨b, 0, none⟩), .agg #[.int .i64 (q : Int), .int .i64 n, .slice a 0 cap], .slice na N nc] w1 fun e w' => e = .returned (.bool (nmd N M t)) ∧ Wr B b w1 w' (l ++ tx N M t)) :=
      hwl a cap B b l w1 hB1 hBB W1.1 hB1w (by omega) hf rfl
    clear hK hW hB hBB hbd hBw hl hf hcn k1 k2 k3 hx hwl hwk htx hnm hBxc hqn hnn hcc hkd hq hw1 W1 hx1 hB1 hB1w hbne hsg ih hszt
    go_enter Tryd.func19, Tryd.ntmps19
    go_wp2_with fail
    rw [← HE.out]
    refine C.out.mono ?_
    rintro e w2 ⟨rfl, hw2⟩
    have H2 : Hid (Wr B b w w2 (l ++ tx N M t)) := HX.out.1.trans hw2
    clear C hw2
    go_wp2
    go_ret
    exact ⟨rfl, H2.out⟩
  · subst h0
    have hs2 : sz t = 1 + (0 + sz (kid 0)) := hszt
    have HTx : Hid (tx N M t = (sg q).data.toList ++ par (bare (kid 0).kind q 0) (tx N M (kid 0)) ∧ nmd N M t = nmd N M (kid 0)) := ⟨by rw [htx]; simp, by rw [hnm]; simp⟩
    have C1 : Hid (Calls Tryd.prog 29 #[.pointer (some ⟨b, 0, none⟩), .string (sg q)] w1 fun e w' => e = .returned (.tuple #[.int .i64 (sg q).size, .nilIface]) ∧ Bd w' B b (l ++ (sg q).data.toList) ∧ Below B w1 w' ∧ Fr b w1 w') :=
      writeString_any (sg q) W1.1 (by have := sg_size q; omega) hB1w
    have HK : Hid (∀ u, Below w0.heap.size w0 u → B ≤ u.heap.size → Bd u B b (l ++ (sg q).data.toList) → Calls Tryd.prog 30 #[.pointer (some ⟨b, 0, none⟩), .agg #[.int .i64 (q : Int), .int .i64 n, .slice a 1 cap], .int .i64 0, .slice na N nc] u
        fun e w' => e = .returned (.bool (nmd N M (kid 0))) ∧ Wr B b u w' ((l ++ (sg q).data.toList) ++ par (bare (kid 0).kind q 0) (tx N M (kid 0)))) :=
      fun u h1 h2 h3 => hwk a cap B b 0 _ u hK (by omega) (ih 0 (by omega)) hW h1 hBB h3 h2 (by have := sg_size q; have := bytes_len (sg q); simp only [List.length_append]; omega) (by omega)
    have hsc : w.cell? ⟨0, q, none⟩ = some (.string (sg q)) := hsg w hB
    generalize sg q = sv at *
    clear hK hW hB hBB hbd hBw hl hf hcn k1 k2 k3 hx hwl hwk htx hnm hBxc hqn hnn hcc hkd hq hw1 W1 hx1 hB1 hB1w hbne hsg ih hszt hs2
    go_enter Tryd.func19, Tryd.ntmps19
    go_wp2_with fail
    rw [← HE.out]
    refine C1.out.mono ?_
    rintro e w2 ⟨rfl, hd2, hb2, hf2⟩
    have H2 : Hid (Wr B b w w2 (l ++ sv.data.toList)) := HX.out.1.trans ⟨hd2, hb2, hf2⟩
    have hx2 := HX.out.2.1.fr hf2 HBB.out.2
    obtain ⟨g0, g1, g2⟩ := HBxc.out _ _ hx2
    have C2 := hid (HK.out w2 (HX.out.2.2.1.trans (hb2.mono HBB.out.1)) (Nat.le_trans HX.out.2.2.2 hb2.size) H2.out.1)
    clear C1 hd2 hb2 hf2 hx2 HK
    go_wp2_with fail
    refine C2.out.mono ?_
    rintro e w3 ⟨rfl, hw3⟩
    have H3 : Hid (Wr B b w w3 ((l ++ sv.data.toList) ++ par (bare (kid 0).kind q 0) (tx N M (kid 0)))) := H2.out.trans hw3
    clear C2 hw3 g0 g1 g2
    go_wp2
    go_ret
    rw [HTx.out.1, HTx.out.2]
    refine ⟨rfl, ?_⟩
    have := H3.out
    rwa [List.append_assoc] at this
  · subst h0
    have hs2 : sz t = 1 + (0 + sz (kid 0) + sz (kid 1)) := hszt
    have HTx : Hid (tx N M t = par (bare (kid 0).kind q 0) (tx N M (kid 0)) ++ ((sg q).data.toList ++ par (bare (kid 1).kind q 1) (tx N M (kid 1))) ∧ nmd N M t = (nmd N M (kid 1) && nmd N M (kid 0))) := ⟨by rw [htx]; simp, by rw [hnm]; simp⟩
    have hp0 := par_len (bare (kid 0).kind q 0) (tx N M (kid 0))
    have ht0 := tx_len N M (kid 0)
    have hz1 := sz_pos (kid 1)
    have hsl := sg_size q
    have hsb := bytes_len (sg q)
    have C0 : Hid (Calls Tryd.prog 30 #[.pointer (some ⟨b, 0, none⟩), .agg #[.int .i64 (q : Int), .int .i64 n, .slice a 2 cap], .int .i64 0, .slice na N nc] w1
        fun e w' => e = .returned (.bool (nmd N M (kid 0))) ∧ Wr B b w1 w' (l ++ par (bare (kid 0).kind q 0) (tx N M (kid 0)))) :=
      hwk a cap B b 0 l w1 hK (by omega) (ih 0 (by omega)) hW hB1 hBB W1.1 hB1w (by omega) (by omega)
    generalize hP0 : par (bare (kid 0).kind q 0) (tx N M (kid 0)) = P0 at *
    have HC1 : Hid (∀ u, B ≤ u.heap.size → Bd u B b (l ++ P0) → Calls Tryd.prog 29 #[.pointer (some ⟨b, 0, none⟩), .string (sg q)] u fun e w' => e = .returned (.tuple #[.int .i64 (sg q).size, .nilIface]) ∧ Bd w' B b ((l ++ P0) ++ (sg q).data.toList) ∧ Below B u w' ∧ Fr b u w') :=
      fun u h1 h2 => writeString_any (sg q) h2 (by simp only [List.length_append]; omega) h1
    have HK : Hid (∀ u, Below w0.heap.size w0 u → B ≤ u.heap.size → Bd u B b ((l ++ P0) ++ (sg q).data.toList) → Calls Tryd.prog 30 #[.pointer (some ⟨b, 0, none⟩), .agg #[.int .i64 (q : Int), .int .i64 n, .slice a 2 cap], .int .i64 1, .slice na N nc] u
        fun e w' => e = .returned (.bool (nmd N M (kid 1))) ∧ Wr B b u w' (((l ++ P0) ++ (sg q).data.toList) ++ par (bare (kid 1).kind q 1) (tx N M (kid 1)))) :=
      fun u h1 h2 h3 => hwk a cap B b 1 _ u hK (by omega) (ih 1 (by omega)) hW h1 hBB h3 h2 (by simp only [List.length_append]; omega) (by omega)
    generalize sg q = sv at *
    obtain ⟨n0, hn0⟩ : ∃ y, y = nmd N M (kid 0) := ⟨_, rfl⟩
    obtain ⟨n1, hn1⟩ : ∃ y, y = nmd N M (kid 1) := ⟨_, rfl⟩
    rw [← hn0, ← hn1] at HTx
    rw [← hn0] at C0
    rw [← hn1] at HK
    clear hK hW hB hBB hbd hBw hl hf hcn k1 k2 k3 hx hwl hwk htx hnm hBxc hqn hnn hcc hkd hq hw1 W1 hx1 hB1 hB1w hbne hsg ih hszt hs2 hp0 ht0 hz1 hsl hsb hP0 hn0 hn1
    go_enter Tryd.func19, Tryd.ntmps19
    go_wp2_with fail
    rw [← HE.out]
    refine C0.out.mono ?_
    rintro e w2 ⟨rfl, hw2⟩
    have H2 : Hid (Wr B b w w2 (l ++ P0)) := HX.out.1.trans hw2
    have hx2 := HX.out.2.1.fr hw2.2.2 HBB.out.2
    have HX2 : Hid (Bx w2 w.heap.size t a cap ∧ Below w0.heap.size w0 w2 ∧ B ≤ w2.heap.size) := ⟨hx2, HX.out.2.2.1.trans (hw2.2.1.mono HBB.out.1), Nat.le_trans HX.out.2.2.2 hw2.size⟩
    obtain ⟨g0, -, -⟩ := HBxc.out _ _ hx2
    have gs := HSG.out w2 HX2.out.2.1
    have C1 := hid (HC1.out w2 HX2.out.2.2 H2.out.1)
    clear C0 hw2 hx2 HC1
    go_wp2_with fail
    refine C1.out.mono ?_
    rintro e w3 ⟨rfl, hd3, hb3, hf3⟩
    have H3 : Hid (Wr B b w w3 ((l ++ P0) ++ sv.data.toList)) := H2.out.trans ⟨hd3, hb3, hf3⟩
    have hx3 := HX2.out.1.fr hf3 HBB.out.2
    clear g0 gs C1
    obtain ⟨g0, g1, g2⟩ := HBxc.out _ _ hx3
    have C2 := hid (HK.out w3 (HX2.out.2.1.trans (hb3.mono HBB.out.1)) (Nat.le_trans HX2.out.2.2 hb3.size) H3.out.1)
    clear hd3 hb3 hf3 hx3 HK
    cases n1
    · go_wp2_with fail
      refine C2.out.mono ?_
      rintro e w4 ⟨rfl, hw4⟩
      have H4 : Hid (Wr B b w w4 (((l ++ P0) ++ sv.data.toList) ++ par (bare (kid 1).kind q 1) (tx N M (kid 1)))) := H3.out.trans hw4
      clear C2 hw4 g0 g1 g2
      go_wp2
      go_ret
      rw [HTx.out.1, HTx.out.2]
      refine ⟨rfl, ?_⟩
      have := H4.out
      rwa [List.append_assoc, List.append_assoc] at this
    · go_wp2_with fail
      refine C2.out.mono ?_
      rintro e w4 ⟨rfl, hw4⟩
      have H4 : Hid (Wr B b w w4 (((l ++ P0) ++ sv.data.toList) ++ par (bare (kid 1).kind q 1) (tx N M (kid 1)))) := H3.out.trans hw4
      clear C2 hw4 g0 g1 g2
      go_wp2
      go_ret
      rw [HTx.out.1, HTx.out.2]
      refine ⟨rfl, ?_⟩
      have := H4.out
      rwa [List.append_assoc, List.append_assoc] at this

/-- What Print answers. -/
def PrV (N : Nat) (M : Nat → ByteArray) (t : Fml) : ByteArray × Int :=
  if (chk t 1 0).1 ≠ 0 then (⟨#[]⟩, (chk t 1 0).1) else if nmd N M t = true then (⟨(tx N M t).toArray⟩, 0) else (⟨#[]⟩, 4)

set_option maxHeartbeats 2000000 in
theorem print_any {w0 : World} {na : Option Addr} {N nc : Nat} {M : Nat → ByteArray} (hS : Sta w0 na N nc M) (t : Fml) (a : Option Addr) (cap : Nat) (hK : Kds w0 t a) (hc : t.cnt ≤ 9223372036854775807) :
    Calls Tryd.prog 8 #[.agg #[.int .i64 t.kind, .int .i64 t.num, .slice a t.cnt cap], .slice na N nc] w0 fun e w' => e = .returned (.tuple #[.string (PrV N M t).1, .int .i64 (PrV N M t).2]) ∧ Below w0.heap.size w0 w' := by
  obtain ⟨w1, hw1⟩ : ∃ y, y = w0.alloc (.cells #[.int .i64 t.kind, .int .i64 t.num, .slice a t.cnt cap] 24) := ⟨_, rfl⟩
  have hB1 : Below w0.heap.size w0 w1 := by rw [hw1]; exact box_below _ _
  have hx1 : Bx w1 w0.heap.size t a cap := by rw [hw1]; exact bx_new w0 t a cap
  have C : Hid (Calls Tryd.prog 9 #[.agg #[.int .i64 t.kind, .int .i64 t.num, .slice a t.cnt cap]] w1 fun e w' => e = .returned (.int .i64 (chk t 1 0).1) ∧ Below w1.heap.size w1 w') := check_any t a cap w1 (hS.kc.below hB1 hS.four) (hK.below hB1) hc
  have HE := hid hw1
  have HX : Hid (Below w0.heap.size w0 w1 ∧ Bx w1 w0.heap.size t a cap ∧ w0.heap.size < w1.heap.size) := ⟨hB1, hx1, by rw [hw1]; simp⟩
  have HW := hid (write_any hS t)
  have HK := hid hK
  have HS := hid hS
  have HP : Hid (PrV N M t = if (chk t 1 0).1 ≠ 0 then (⟨#[]⟩, (chk t 1 0).1) else if nmd N M t = true then (⟨(tx N M t).toArray⟩, 0) else (⟨#[]⟩, 4)) := hid rfl
  have HZ : Hid ((chk t 1 0).1 = 0 → Wf t ∧ sz t ≤ 60) := fun h => by
    have h1 := chk_wf t 1 0 h
    have h2 := (chk_small t 1 0 (by omega)).2 h
    exact ⟨h1.1, by omega⟩
  obtain ⟨e0, he0⟩ : ∃ y, y = (chk t 1 0).1 := ⟨_, rfl⟩
  rw [← he0] at C HP HZ
  clear hw1 hB1 hx1 hK hS hc he0
  by_cases h0 : e0 = 0
  · have hb0 : (e0 == 0) = true := beq_iff_eq.2 h0
    have HP2 : Hid (PrV N M t = if nmd N M t = true then (⟨(tx N M t).toArray⟩, 0) else (⟨#[]⟩, 4)) := hid (HP.out.trans (if_neg (by simp [h0])))
    have HWf : Hid (Wf t ∧ sz t ≤ 60) := HZ.out h0
    clear h0 HZ HP
    go_enter Tryd.func8, Tryd.ntmps8
    go_wp2_with fail
    rw [← HE.out]
    refine C.out.mono ?_
    rintro e w2 ⟨rfl, hb2⟩
    have HX2 : Hid (Below w0.heap.size w0 w2 ∧ Bx w2 w0.heap.size t a cap ∧ w0.heap.size < w2.heap.size) := ⟨HX.out.1.trans (hb2.mono HX.out.1.size), (hb2.block _ HX.out.2.2).trans HX.out.2.1, by have := hb2.size; have := HX.out.2.2; omega⟩
    have g0 := HX2.out.2.1.c0
    have g1 := HX2.out.2.1.c1
    have g2 := HX2.out.2.1.c2
    have hlt := HX2.out.2.2
    have C2 : Hid (Calls Tryd.prog 19 #[.pointer (some ⟨w2.heap.size, 0, none⟩), .agg #[.int .i64 t.kind, .int .i64 t.num, .slice a t.cnt cap], .slice na N nc] (w2.alloc (.cells #[.pointer none, .slice none 0 0] 45)) fun e w' => e = .returned (.bool (nmd N M t)) ∧ Wr w2.heap.size w2.heap.size (w2.alloc (.cells #[.pointer none, .slice none 0 0] 45)) w' ([] ++ tx N M t)) :=
      HW.out a cap w2.heap.size w2.heap.size [] _ HK.out HWf.out.1 (HX2.out.1.alloc HX2.out.1.size _) HX2.out.1.size (bd_start w2) (by simp) (by have := HWf.out.2; simp; omega)
    clear C hb2 HW
    obtain ⟨nb, hnb⟩ : ∃ y, y = nmd N M t := ⟨_, rfl⟩
    rw [← hnb] at C2 HP2
    clear hnb
    go_wp2_with fail
    refine C2.out.mono ?_
    rintro e w3 ⟨rfl, hw3⟩
    have H3 : Hid (Below w0.heap.size w0 w3 ∧ Bd w3 w2.heap.size w2.heap.size (tx N M t) ∧ w2.heap.size ≤ w3.heap.size) := ⟨(HX2.out.1.alloc HX2.out.1.size _).trans (hw3.2.1.mono HX2.out.1.size), by have := hw3.1; rwa [List.nil_append] at this, by have := hw3.size; simp at this; omega⟩
    clear C2 hw3 g0 g1 g2
    cases nb
    · go_wp2
      go_ret2
      refine ⟨?_, H3.out.1⟩
      rw [HP2.out]
      rfl
    · have C3 : Hid (Calls Tryd.prog 20 #[.pointer (some ⟨w2.heap.size, 0, none⟩)] w3 fun e w' => e = .returned (.string ⟨(tx N M t).toArray⟩) ∧ Below w2.heap.size w3 w') := Tryd.Builder_String_any w2.heap.size w2.heap.size (tx N M t) w3 H3.out.2.1 H3.out.2.2
      go_wp2_with fail
      refine C3.out.mono ?_
      rintro e w4 ⟨rfl, hb4⟩
      have H4 : Hid (Below w0.heap.size w0 w4) := H3.out.1.trans (hb4.mono HX2.out.1.size)
      clear C3 hb4
      go_wp2
      go_ret2
      refine ⟨?_, H4.out⟩
      rw [HP2.out]
      rfl
  · have hb0 : (e0 == 0) = false := beq_eq_false_iff_ne.2 h0
    have HP2 : Hid (PrV N M t = (⟨#[]⟩, e0)) := hid (HP.out.trans (if_pos h0))
    clear h0 HZ HP HW
    go_enter Tryd.func8, Tryd.ntmps8
    go_wp2_with fail
    rw [← HE.out]
    refine C.out.mono ?_
    rintro e w2 ⟨rfl, hb2⟩
    have H2 : Hid (Below w0.heap.size w0 w2) := HX.out.1.trans (hb2.mono HX.out.1.size)
    clear C hb2
    go_wp2
    go_ret2
    refine ⟨?_, H2.out⟩
    rw [HP2.out]
    rfl

end Go.Proofs.YtgpjlgffmlkkoaaDoor
