/-   -/
import Derived.Test.YtmdpbaobihdgkaaGreatDoorPln
/- tableau: where a part stands in a list (placeOf). -/
/- tableau: a part joins a list, unless it is there (withPart). -/
namespace Go.Proofs.YtmdpbaobihdgkaaGreatDoor
open Go.RowKit
def plc (t : Fml) (r : Nat → Fml) : Nat → Int
 | 0 => -1
 | n + 1 => if plc t r n = -1 then (if same (r n) t = true then (n : Int) else -1) else plc t r n
theorem plc_stay {t : Fml} {r : Nat → Fml} {k : Nat} (h : plc t r k ≠ -1) : ∀ n, k ≤ n → plc t r n = plc t r k
 | 0, hk => by obtain rfl : k = 0 := by omega
               rfl
 | n + 1, hk => by
  by_cases e : k = n + 1
  ·subst e; rfl
  ·have h2 := plc_stay h n (by omega)
   rw [plc, h2, if_neg h]
theorem plc_at {t : Fml} {r : Nat → Fml} {k n : Nat} (h : plc t r k = -1) (hs : same (r k) t = true) (hk : k < n) : plc t r n = k := by
 have e : plc t r (k + 1) = (k : Int) := by rw [plc, if_pos h, if_pos hs]
 rw [plc_stay (by rw [e]; omega) n hk, e]
theorem plc_next {t : Fml} {r : Nat → Fml} {k : Nat} (h : plc t r k = -1) (hs : same (r k) t = false) : plc t r (k + 1) = -1 := by
 rw [plc, if_pos h, if_neg (by rw [hs]; decide)]
theorem plc_lt {t : Fml} {r : Nat → Fml} : ∀ n, plc t r n = -1 ∨ ∃ k, k < n ∧ plc t r n = (k : Int) ∧ r k = t
 | 0 => Or.inl rfl
 | n + 1 => by
  rcases plc_lt (t := t) (r := r) n with h | ⟨k, hk, h, e⟩
  ·rw [plc, if_pos h]
   by_cases hs : same (r n) t = true
   ·rw [if_pos hs]
    exact Or.inr ⟨n, by omega, rfl, (same_iff _ _).1 hs⟩
   ·rw [if_neg hs]
    exact Or.inl rfl
  ·exact Or.inr ⟨k, by omega, by rw [plc, if_neg (by omega), h], e⟩
theorem plc_none {t : Fml} {r : Nat → Fml} : ∀ n, plc t r n = -1 → ∀ k, k < n → r k ≠ t
 | 0, _, k, hk => by omega
 | n + 1, h, k, hk => by
  rw [plc] at h
  by_cases e : plc t r n = -1
  ·rw [if_pos e] at h
   by_cases hs : same (r n) t = true
   ·rw [if_pos hs] at h
    omega
   ·by_cases ek : k = n
    ·subst ek
     exact fun q => hs ((same_iff _ _).2 q)
    ·exact plc_none n e k (by omega)
  ·rw [if_neg e] at h
   exact absurd h e
set_option maxHeartbeats 1000000 in
theorem place112 {t : Fml} {u : Fml} {a ua : Option Addr} {cap uc pb : Nat} {w : World} (hk : Kds w t a) (hu : Kds w u ua) (hc : t.cnt ≤ 9223372036854775807) (huc : u.cnt ≤ 9223372036854775807)
  (hp : w.heap[pb]? = some (.cells #[.int .i64 t.kind, .int .i64 t.num, .slice a t.cnt cap] 24)) :
  Calls Tryz.prog 112 #[.agg #[.int .i64 u.kind, .int .i64 u.num, .slice ua u.cnt uc], .pointer (some ⟨pb, 0, none⟩)] w fun e w' => e = .returned (.bool (same u t)) ∧ Below w.heap.size w w' := by
 obtain ⟨w1, hw1⟩ : ∃ y, y = w.alloc (.cells #[.int .i64 u.kind, .int .i64 u.num, .slice ua u.cnt uc] 24) := ⟨_, rfl⟩
 have hB1 : Below w.heap.size w w1 := by rw [hw1]; exact box_below _ _
 have p1 : w1.heap[pb]? = some (.cells #[.int .i64 t.kind, .int .i64 t.num, .slice a t.cnt cap] 24) := by rw [hB1.block pb (jq4.1 hp).1]; exact hp
 have c0 : w1.cell? ⟨pb, 0, none⟩ = some (.int .i64 t.kind) := cell_of_cells p1 rfl
 have c1 : w1.cell? ⟨pb, 1, none⟩ = some (.int .i64 t.num) := cell_of_cells p1 rfl
 have c2 : w1.cell? ⟨pb, 2, none⟩ = some (.slice a t.cnt cap) := cell_of_cells p1 rfl
 have C := hid (same62 u t ua a uc cap w1 (hu.below hB1) (hk.below hB1) huc hc)
 have HB := hid hB1
 subst hw1
 have hpb : pb < w.heap.size := (jq4.1 hp).1
 have d0 : w.cell? ⟨pb, 0, none⟩ = some (.int .i64 t.kind) := cell_of_cells hp rfl
 have d1 : w.cell? ⟨pb, 1, none⟩ = some (.int .i64 t.num) := cell_of_cells hp rfl
 have d2 : w.cell? ⟨pb, 2, none⟩ = some (.slice a t.cnt cap) := cell_of_cells hp rfl
 clear hk hu hp p1 hB1
 go_enter Tryz.func112, Tryz.ntmps112
 go_wp2_with fail
 refine C.out.mono ?_
 rintro e z ⟨rfl, hb⟩
 have HB2 : Hid (Below w.heap.size w z) := HB.out.trans (hb.mono HB.out.size)
 clear hb C
 go_wp2
 go_ret
 exact ⟨rfl, HB2.out⟩
set_option maxHeartbeats 2000000 in
theorem index111 {w : World} {t : Fml} {a : Option Addr} {b o c cap pb : Nat} {kid : Nat → Fml} (ha : 0 < c → a = some ⟨b, o, none⟩) (hc : c ≤ 9223372036854775807) (hk : KidsAt w b o c kid)
  (hf : ∀ i, i < c → ∀ (ai : Option Addr) (ci : Nat) (z : World), Below w.heap.size w z → Kds z (kid i) ai → Calls Tryz.prog 112 #[.agg #[.int .i64 (kid i).kind, .int .i64 (kid i).num, .slice ai (kid i).cnt ci], .pointer (some ⟨pb, 0, none⟩)] z fun e w' => e = .returned (.bool (same (kid i) t)) ∧ Below z.heap.size z w') :
  Calls Tryz.prog 111 #[.slice a c cap, .func (.func 112) #[] #[.pointer (some ⟨pb, 0, none⟩)]] w fun e w' => e = .returned (.int .i64 (plc t kid c)) ∧ Below w.heap.size w w' := by
 have HA := hid ha
 have HK := hid hk
 have HF := hid hf
 clear ha hk hf
 go_enter Tryz.func111, Tryz.ntmps111
 go_wp2
 go_loopw [8] (fun i wr => ∃ k : Nat, k ≤ c ∧ i = .int .i64 k ∧ Hid (plc t kid k = -1 ∧ Below w.heap.size w wr)) (fun i _ => c - (intOf i).toNat)
 case atStart => exact ⟨0, Nat.zero_le _, rfl, hid ⟨rfl, Below.refl _ _⟩⟩
 case round =>
  obtain ⟨k, hkc, rfl, HP⟩ := hrel
  have HB : Hid (Below w.heap.size w wr) := HP.out.2
  by_cases hlt : k < c
  ·obtain rfl := HA.out (by omega)
   obtain ⟨ai, ci, e1, e2, e3, e4, e5⟩ := HK.out k hlt
   have f1 := below_cell HB.out jq0 e1
   have f2 := below_cell HB.out jq0 e2
   have f3 := below_cell HB.out jq0 e3
   have hkz : (k : Int) < c := by omega
   have C := hid (HF.out k hlt ai ci wr HB.out (e5.below HB.out))
   by_cases hs : same (kid k) t = true
   ·have HR : Hid (plc t kid c = (k : Int)) := plc_at HP.out.1 hs hlt
    rw [hs] at C
    obtain ⟨kk, hkk⟩ : ∃ x, x = kid k := ⟨_, rfl⟩
    rw [← hkk] at f1 f2 f3 C
    clear hkk e1 e2 e3 e4 e5
    go_wp2_with fail
    refine C.out.mono ?_
    rintro e z ⟨rfl, hb⟩
    have HB2 : Hid (Below w.heap.size w z) := HB.out.trans (hb.mono HB.out.size)
    clear hb C
    go_wp2
    go_ret
    exact ⟨ret_int HR.out.symm, HB2.out⟩
   ·rw [Bool.not_eq_true] at hs
    have HN : Hid (plc t kid (k + 1) = -1) := plc_next HP.out.1 hs
    rw [hs] at C
    obtain ⟨kk, hkk⟩ : ∃ x, x = kid k := ⟨_, rfl⟩
    rw [← hkk] at f1 f2 f3 C
    clear hkk e1 e2 e3 e4 e5
    go_wp2_with fail
    refine C.out.mono ?_
    rintro e z ⟨rfl, hb⟩
    have HB2 : Hid (plc t kid (k + 1) = -1 ∧ Below w.heap.size w z) := ⟨HN.out, HB.out.trans (hb.mono HB.out.size)⟩
    clear hb C
    go_wp2
    go_roundw
    case rel => exact ⟨k + 1, by omega, by go_num, HB2⟩
    case measure => simp [intOf]; omega
  ·obtain rfl : k = c := by omega
   go_wp2
   go_ret
   exact ⟨ret_int HP.out.1.symm, HB.out⟩
theorem kidsAt_below {w w' : World} {b o c : Nat} {kid : Nat → Fml} (h : KidsAt w b o c kid) (hb : Below w.heap.size w w') : KidsAt w' b o c kid := fun i hi => by
 obtain ⟨ai, ci, e1, e2, e3, e4, e5⟩ := h i hi
 exact ⟨ai, ci, below_cell hb jq0 e1, below_cell hb jq0 e2, below_cell hb jq0 e3, e4, e5.below hb⟩
set_option maxHeartbeats 2000000 in
theorem place86 {w : World} {t : Fml} {ta : Option Addr} {tc : Nat} {a : Option Addr} {b o c cap : Nat} {kid : Nat → Fml} (hT : Kds w t ta) (htc : t.cnt ≤ 9223372036854775807) (ha : 0 < c → a = some ⟨b, o, none⟩) (hc : c ≤ 9223372036854775807) (hk : KidsAt w b o c kid) (hkc : ∀ i, i < c → (kid i).cnt ≤ 9223372036854775807) :
  Calls Tryz.prog 86 #[.slice a c cap, .agg #[.int .i64 t.kind, .int .i64 t.num, .slice ta t.cnt tc]] w fun e w' => e = .returned (.int .i64 (plc t kid c)) ∧ Below w.heap.size w w' := by
 obtain ⟨w1, hw1⟩ : ∃ y, y = w.alloc (.cells #[.int .i64 t.kind, .int .i64 t.num, .slice ta t.cnt tc] 24) := ⟨_, rfl⟩
 have hB1 : Below w.heap.size w w1 := by rw [hw1]; exact box_below _ _
 have p1 : w1.heap[w.heap.size]? = some (.cells #[.int .i64 t.kind, .int .i64 t.num, .slice ta t.cnt tc] 24) := by rw [hw1]; exact Go.Deep.blk_alloc_new _ _
 have C := hid (index111 (w := w1) (t := t) (a := a) (cap := cap) (pb := w.heap.size) ha hc (kidsAt_below hk hB1) (fun i hi ai ci z hz hkz =>
  place112 (hT.below (hB1.trans (hz.mono hB1.size))) hkz htc (hkc i hi) (by rw [hz.block _ (jq4.1 p1).1]; exact p1)))
 have HB := hid hB1
 have HW := hid hw1
 clear hT ha hc hk hkc p1 hw1
 go_enter Tryz.func86, Tryz.ntmps86
 go_wp2_with fail
 try rw [← HW.out]
 refine C.out.mono ?_
 rintro e z ⟨rfl, hb⟩
 have HB2 : Hid (Below w.heap.size w z) := HB.out.trans (hb.mono HB.out.size)
 clear hb C
 go_wp2
 go_ret
 exact ⟨rfl, HB2.out⟩
end Go.Proofs.YtmdpbaobihdgkaaGreatDoor
namespace Go.Proofs.YtmdpbaobihdgkaaGreatDoor
open Go.RowKit
structure El (w0 w : World) (base n : Nat) (r : Nat → Fml) (v : Value) : Prop where
 list : ∃ (A : Nat → Option Addr) (C : Nat → Nat), w.ownsRow base 24 3 v n (kvs r A C n) ∧ ∀ i, i < n → Kds w0 (r i) (A i) ∧ (r i).cnt ≤ 9223372036854775807
theorem El.start (w0 w : World) (base : Nat) (r : Nat → Fml) : El w0 w base 0 r (.slice none 0 0) :=
 ⟨fun _ => none, fun _ => 0, ⟨by simp [kvs], Or.inl ⟨rfl, rfl⟩⟩, fun i hi => absurd hi (Nat.not_lt_zero i)⟩
theorem El.own {w0 w : World} {base n : Nat} {r : Nat → Fml} {v : Value} (h : El w0 w base n r v) : ∀ g, v.ownBlock = some g → base ≤ g ∧ g < w.heap.size := by
 intro g hg
 obtain ⟨A, C, h1, _⟩ := h.list
 rcases h1.2 with ⟨rfl, _⟩ | ⟨g', cap, cur, rfl, hg', hb, _⟩
 ·simp [Value.ownBlock] at hg
 ·simp [Value.ownBlock] at hg
  subst hg
  exact ⟨hg', (jq4.1 hb).1⟩
theorem El.stay {w0 w w' : World} {base n : Nat} {r : Nat → Fml} {v : Value} (h : El w0 w base n r v) (hk : ∀ g, v.ownBlock = some g → w'.heap[g]? = w.heap[g]?) : El w0 w' base n r v := by
 obtain ⟨A, C, h1, h2⟩ := h.list
 refine ⟨A, C, ⟨h1.1, ?_⟩, h2⟩
 rcases h1.2 with h0 | ⟨g, cap, cur, e1, e2, e3, e4⟩
 ·exact Or.inl h0
 ·exact Or.inr ⟨g, cap, cur, e1, e2, (hk g (by rw [e1]; rfl)).trans e3, e4⟩
theorem El.below {w0 w w' : World} {base n : Nat} {r : Nat → Fml} {v : Value} (h : El w0 w base n r v) (hb : Below w.heap.size w w') : El w0 w' base n r v :=
 h.stay (fun g hg => hb.block g (h.own g hg).2)
theorem El.slice {w0 w : World} {base n : Nat} {r : Nat → Fml} {v : Value} (h : El w0 w base n r v) (hw : Below w0.heap.size w0 w) : ∃ a b o c, v = .slice a n c ∧ (0 < n → a = some ⟨b, o, none⟩) ∧ KidsAt w b o n r := by
 obtain ⟨A, C, h1, h2⟩ := h.list
 rcases h1.2 with ⟨rfl, rfl⟩ | ⟨g, cap, cur, rfl, hg, hb, _⟩
 ·exact ⟨none, 0, 0, 0, rfl, fun hh => absurd hh (Nat.lt_irrefl 0), fun i hi => absurd hi (Nat.not_lt_zero i)⟩
 ·refine ⟨some ⟨g, 0, none⟩, g, 0, cap, rfl, fun _ => rfl, fun i hi => ?_⟩
  obtain ⟨e1, e2, e3⟩ := kvs_at r A C i n hi
  have c1 := h1.cells (g := g) rfl _ _ e1
  have c2 := h1.cells (g := g) rfl _ _ e2
  have c3 := h1.cells (g := g) rfl _ _ e3
  rw [addr_none] at c1 c2 c3
  exact ⟨A i, C i, c1, by rw [Nat.add_assoc]; exact c2, by rw [Nat.add_assoc]; exact c3, (h2 i hi).2, (h2 i hi).1.below hw⟩
def adR (n : Nat) (r : Nat → Fml) (t : Fml) : Nat → Fml := fun i => if i = n then t else r i
theorem El.step {w0 w' : World} {base n : Nat} {r : Nat → Fml} {v' : Value} {t : Fml} {a : Option Addr} {c : Nat} {A : Nat → Option Addr} {C : Nat → Nat}
  (hA : ∀ i, i < n → Kds w0 (r i) (A i) ∧ (r i).cnt ≤ 9223372036854775807) (ht : Kds w0 t a) (htc : t.cnt ≤ 9223372036854775807)
  (ho : w'.ownsRow base 24 3 v' (n + 1) (kvs r A C n ++ [.int .i64 t.kind, .int .i64 t.num, .slice a t.cnt c])) : El w0 w' base (n + 1) (adR n r t) v' := by
 refine ⟨fun i => if i = n then a else A i, fun i => if i = n then c else C i, ?_, fun i hi => ?_⟩
 ·have e : kvs (adR n r t) (fun i => if i = n then a else A i) (fun i => if i = n then c else C i) (n + 1) = kvs r A C n ++ [.int .i64 t.kind, .int .i64 t.num, .slice a t.cnt c] := by
   have e2 : ∀ j, j ≤ n → kvs (adR n r t) (fun i => if i = n then a else A i) (fun i => if i = n then c else C i) j = kvs r A C j := by
    intro j
    induction j with
    | zero => intro _; rfl
    | succ j ih =>
     intro hj
     have : j ≠ n := by omega
     simp only [kvs, ih (by omega), adR, if_neg this]
   rw [kvs, e2 n jq0]
   simp [adR]
  rw [e]
  exact ho
 ·by_cases e : i = n
  ·subst e
   simp only [adR, if_true]
   exact ⟨ht, htc⟩
  ·simp only [adR, if_neg e]
   exact hA i (by omega)
theorem grown_of_below {w w' : World} {k : Option Nat} (h : Below w.heap.size w w') : w.grownBy w' k := ⟨h.os, h.tape, h.output, h.size, fun b hb _ => h.block b hb⟩
def Wp (w0 w : World) (base n : Nat) (r : Nat → Fml) (v : Value) (t : Fml) (w' : World) (v' : Value) : Prop :=
 w.grownBy w' v.ownBlock ∧ (v'.ownBlock = v.ownBlock ∨ ∃ g, v'.ownBlock = some g ∧ w.heap.size ≤ g) ∧ (if plc t r n = -1 then El w0 w' base (n + 1) (adR n r t) v' else El w0 w' base n r v')
set_option maxHeartbeats 2000000 in
theorem with45 {w0 w : World} {base n : Nat} {r : Nat → Fml} {v : Value} {t : Fml} {a : Option Addr} {c : Nat} (hw : Below w0.heap.size w0 w) (h : El w0 w base n r v) (hb : base ≤ w.heap.size) (hn : n ≤ 1000) (ht : Kds w0 t a) (htc : t.cnt ≤ 9223372036854775807) :
  Calls Tryz.prog 45 #[v, .agg #[.int .i64 t.kind, .int .i64 t.num, .slice a t.cnt c]] w fun e w' => ∃ v', e = .returned v' ∧ Hid (Wp w0 w base n r v t w' v') := by
 obtain ⟨i0, hi, hz0, hz1, hz2⟩ := info_parts Tryz.info24
 have HI : Hid (Tryz.prog.info? 24 = some i0 ∧ i0.zero = some (.agg #[.int .i64 0, .int .i64 0, .slice none 0 0]) ∧ i0.size = 3 ∧ i0.bytes = 40) := ⟨hi, hz0, hz1, hz2⟩
 obtain ⟨w1, hw1⟩ : ∃ y, y = w.alloc (.cells #[.int .i64 t.kind, .int .i64 t.num, .slice a t.cnt c] 24) := ⟨_, rfl⟩
 have hB1 : Below w.heap.size w w1 := by rw [hw1]; exact box_below _ _
 have hw01 : Below w0.heap.size w0 w1 := hw.trans (hB1.mono hw.size)
 have x1 : Tri w1 w.heap.size (.int .i64 t.kind) (.int .i64 t.num) (.slice a t.cnt c) := by rw [hw1]; exact tri_new _ _ _ _
 have h1 := h.below hB1
 obtain ⟨sa, b, o, sc, rfl, hsa, hks⟩ := h1.slice hw01
 have hcn : ∀ i, i < n → (r i).cnt ≤ 9223372036854775807 := fun i hi => by
  obtain ⟨A, C, _, h2⟩ := h.list
  exact (h2 i hi).2
 have C := hid (place86 (w := w1) (t := t) (ta := a) (tc := c) (a := sa) (cap := sc) (ht.below hw01) htc hsa (by omega) hks hcn)
 have HH : Hid (El w0 w1 base n r (.slice sa n sc) ∧ Kds w0 t a ∧ t.cnt ≤ 9223372036854775807 ∧ base ≤ w.heap.size ∧ n ≤ 1000) := ⟨h1, ht, htc, hb, hn⟩
 have HB := hid hB1
 have HX := hid x1
 have HW := hid hw1
 clear hw1 x1 h1 ht htc hks hcn hw h hsa hw01 hi hz0 hz1 hz2 hB1
 go_enter Tryz.func45, Tryz.ntmps45
 go_wp2_with fail
 rw [← HW.out]
 refine C.out.mono ?_
 rintro e z ⟨rfl, hbz⟩
 have HB2 : Hid (Below w.heap.size w z) := HB.out.trans (hbz.mono HB.out.size)
 have HE := hid (HH.out.1.below hbz)
 obtain ⟨⟨d0, d1, d2⟩, -⟩ := tri_cells (HX.out.below hbz)
 clear hbz C HX
 by_cases hp : plc t r n = -1
 ·rw [hp]
  obtain ⟨A, CC, ho, hA⟩ := HE.out.list
  have HO := hid ho
  have HA := hid hA
  have hzs : base ≤ z.heap.size := Nat.le_trans hb HB2.out.size
  clear ho hA
  go_wp2_with (at_builtin; refine wpList_append_own_at _ rfl _ _ 22 rfl base 24 i0 _ 3 40 Tryz.underlying22 HI.out.1 HI.out.2.1 HI.out.2.2.1 HI.out.2.2.2 rfl (by decide) _ _ _ rfl (owns3_below HO.out (box_below _ _)) ⟨z.heap.size, 0, none⟩ 1 1 [.int .i64 t.kind, .int .i64 t.num, .slice a t.cnt c] rfl rfl (World.news_of_block (cs := #[.int .i64 t.kind, .int .i64 t.num, .slice a t.cnt c]) (t := 24) (fr := (0, 0)) (Go.Deep.blk_alloc_new z _)) (by intro u hu; simp at hu; rcases hu with rfl | rfl | rfl <;> rfl) (by unfold maxLen; omega) (by omega) (by simp; omega) ?_; intro v' w9 hown hgrow hnil hat)
  go_ret
  refine ⟨_, rfl, hid ⟨?_, ?_, ?_⟩⟩
  ·exact (grown_of_below (HB2.out.trans ((box_below z _).mono HB2.out.size))).trans hgrow
  ·rcases hat with hat | hat
   ·exact Or.inl hat
   ·exact Or.inr ⟨_, hat, by have := HB2.out.size; simp; omega⟩
  ·rw [if_pos hp]
   exact El.step HA.out HH.out.2.1 HH.out.2.2.1 hown
 ·have hpp : 0 ≤ plc t r n := by rcases plc_lt (t := t) (r := r) n with q | ⟨k, _, q, _⟩ <;> omega
  go_wp2
  go_ret
  refine ⟨_, rfl, hid ⟨grown_of_below HB2.out, Or.inl rfl, ?_⟩⟩
  rw [if_neg hp]
  exact HE.out
end Go.Proofs.YtmdpbaobihdgkaaGreatDoor
