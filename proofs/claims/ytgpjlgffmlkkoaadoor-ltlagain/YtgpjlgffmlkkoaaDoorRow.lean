/- row. -/
import Derived.Test.YtgpjlgffmlkkoaaDoorWay
import Derived.Test.YtgpjlgffmlkkoaaDoorPsrL
namespace Go.Proofs.YtgpjlgffmlkkoaaDoor
open Go.RowKit

/-- The world without what lies in block y. -/
def msk (y : Nat) (w : World) : World := { w with heap := w.heap.setIfInBounds y (.cells #[] 0 (0, 0)) }

theorem msk_at {y : Nat} {w : World} {k : Nat} (h : k ≠ y) : (msk y w).heap[k]? = w.heap[k]? := by
  show (w.heap.setIfInBounds y _)[k]? = _
  rw [Array.getElem?_setIfInBounds_ne (fun e => h e.symm)]

theorem msk_size (y : Nat) (w : World) : (msk y w).heap.size = w.heap.size := by
  show (w.heap.setIfInBounds y _).size = _
  simp

theorem msk_out {y : Nat} {w : World} {p : Addr} {v : Value} (h : (msk y w).cell? p = some v) : p.block ≠ y ∧ w.cell? p = some v := by
  by_cases e : p.block = y
  · exfalso
    have hlt := World.block_lt_of_cell? _ _ h
    rw [msk_size] at hlt
    have : (msk y w).heap[p.block]? = some (.cells #[] 0 (0, 0)) := by
      rw [e]
      show (w.heap.setIfInBounds y _)[y]? = _
      simp [show y < w.heap.size by omega]
    simp [World.cell?, this] at h
  · refine ⟨e, ?_⟩
    rw [World.cell?_of_block (w := w) (msk_at e)] at h
    exact h

theorem msk_in {y : Nat} {w : World} {p : Addr} {v : Value} (hp : p.block ≠ y) (h : w.cell? p = some v) : (msk y w).cell? p = some v := by
  rw [World.cell?_of_block (w := w) (msk_at hp)]
  exact h

theorem ky_keep {B y : Nat} {w w' : World} {t : Fml} {a : Option Addr} (h : Kds (hi B (msk y w)) t a) (hb : ∀ k, B ≤ k → k ≠ y → k < w.heap.size → w'.heap[k]? = w.heap[k]?) : Kds (hi B (msk y w')) t a :=
  Kds.keep (fun p _ hv => by
    obtain ⟨h1, h2⟩ := hi_out hv
    obtain ⟨h3, h4⟩ := msk_out h2
    refine hi_in h1 (msk_in h3 ?_)
    rw [World.cell?_of_block (w := w) (hb p.block h1 h3 (World.block_lt_of_cell? _ _ h4))]
    exact h4) t a h

theorem ky_out {B y : Nat} {w : World} {t : Fml} {a : Option Addr} (h : Kds (hi B (msk y w)) t a) : Kds (hi B w) t a :=
  Kds.keep (fun _ _ hv => hi_in (hi_out hv).1 (msk_out (hi_out hv).2).2) t a h

theorem ky_of {B : Nat} {w : World} {t : Fml} {a : Option Addr} (h : Kds (hi B w) t a) (o : Obj) : Kds (hi B (msk w.heap.size (w.alloc o))) t a :=
  Kds.keep (fun p _ hv => by
    obtain ⟨h1, h2⟩ := hi_out hv
    have hlt := World.block_lt_of_cell? _ _ h2
    refine hi_in h1 (msk_in (by omega) ?_)
    rw [World.cell?_of_block (w := w) (Go.Deep.blk_alloc_lt _ _ _ hlt)]
    exact h2) t a h

theorem ky_new {B B2 y : Nat} {w : World} {t : Fml} {a : Option Addr} (h : Kds (hi B2 w) t a) (hy : y < B2) (hB : B ≤ B2) : Kds (hi B (msk y w)) t a :=
  Kds.keep (fun p _ hv => by
    obtain ⟨h1, h2⟩ := hi_out hv
    exact hi_in (by omega) (msk_in (by omega) h2)) t a h

theorem tri_set_other {w : World} {x y : Nat} {u v z : Value} (h : Tri w x u v z) (hx : x ≠ y) (a b c : Value) : Tri (((w.setCell ⟨y, 0, none⟩ a).setCell ⟨y, 1, none⟩ b).setCell ⟨y, 2, none⟩ c) x u v z := (blk_tri hx a b c).trans h
theorem size_tri (w : World) (y : Nat) (a b c : Value) : (((w.setCell ⟨y, 0, none⟩ a).setCell ⟨y, 1, none⟩ b).setCell ⟨y, 2, none⟩ c).heap.size = w.heap.size := by simp [World.setCell]
theorem Sp.At.tri {z : Sp} {w : World} {k o y : Nat} (h : z.At w k o) (hy : z.b ≠ y) (hw : z.w0.heap.size ≤ y) (a b c : Value) : z.At (((w.setCell ⟨y, 0, none⟩ a).setCell ⟨y, 1, none⟩ b).setCell ⟨y, 2, none⟩ c) k o :=
  ⟨(blk_tri hy a b c).trans h.1, below_tri h.2.1 hw a b c, h.2.2⟩

/-- Where a row stands: what is read so far lies in block y; or an error has come. -/
def RowR (z : Sp) (w u : World) (k o lv lp y : Nat) (v : Value) (wr : World) : Prop :=
  (∃ (t : Fml) (a : Option Addr) (cap k' : Nat), v = .nilIface ∧ Tri wr y (.int .i64 t.kind) (.int .i64 t.num) (.slice a t.cnt cap) ∧ Kds (hi u.heap.size (msk y wr)) t a ∧ t.cnt ≤ 2 ∧ z.At wr k' o ∧ k ≤ k' ∧
      (∀ q, Ev z.N z.M lp t (lft z.S k') o q → Ev z.N z.M lv .leaf (lft z.S k) o q) ∧ But z.b w wr ∧ Tri wr w.heap.size (.int .i64 0) (.int .i64 0) (.slice none 0 0)) ∨
  (∃ (x y' : Int) (a : Option Addr) (n cap k' : Nat) (c : Int) (m : Nat), v = erV z.V1 z.V2 z.V3 z.V5 c ((z.S.size - m : Nat) : Int) ∧ Tri wr y (.int .i64 x) (.int .i64 y') (.slice a n cap) ∧ z.At wr k' o ∧ m ≤ z.S.size ∧ (c = 3 ∨ c = 4 ∨ c = 5) ∧
      Ev z.N z.M lv .leaf (lft z.S k) o (.error (c, m)) ∧ But z.b w wr ∧ Tri wr w.heap.size (.int .i64 0) (.int .i64 0) (.slice none 0 0))

set_option maxHeartbeats 8000000 in
theorem row71_any {z : Sp} (hz : z.Ok) (k : Nat) (hk : k ≤ z.S.size) (hs : ∀ k', k ≤ k' → k' ≤ z.S.size → LvC z 71 3 k') (o : Nat) (ho : o ≤ 20) (w : World) (h : z.At w k o) :
    Calls Tryd.prog 62 #[.pointer (some ⟨z.b, 0, none⟩), .int .i64 5, .string (byt [38]), .func (Fn.func 71) #[.pointer (some ⟨z.b, 0, none⟩)] #[]] w fun e w' => ∃ r, Ev z.N z.M 2 .leaf (lft z.S k) o r ∧ z.Ans w o r e w' := by
  have HZ := hid hz
  have HA := hid h
  have hlt := h.1.lt
  have hne : w.heap.size ≠ z.b := by omega
  have HS := hid hs
  obtain ⟨u, hu⟩ : ∃ y, y = w.alloc (.cells #[.int .i64 0, .int .i64 0, .slice none 0 0] 24) := ⟨_, rfl⟩
  have hus : u.heap.size = w.heap.size + 1 := by rw [hu]; simp
  have hBu : But z.b w u := by rw [hu]; exact (But.refl _ _).alloc _
  have hTu : Tri u w.heap.size (.int .i64 0) (.int .i64 0) (.slice none 0 0) := by rw [hu]; exact tri_new _ _ _ _
  have hAu : z.At u k o := by rw [hu]; exact h.alloc _
  have HU : Hid (Tri u w.heap.size (.int .i64 0) (.int .i64 0) (.slice none 0 0) ∧ But z.b w u ∧ u.heap.size = w.heap.size + 1) := ⟨hTu, hBu, hus⟩
  have C := hid (hs k (Nat.le_refl _) hk o ho u hAu)
  have HE := hid hu
  have HP : Hid (∀ K v a c cap, Calls Tryd.prog 49 #[.int .i64 K, .slice a c cap] v fun e w' => e = .returned (.agg #[.int .i64 K, .int .i64 0, .slice a c cap]) ∧ Below v.heap.size v w') := fun K v a c cap => part_any K a c cap v
  clear hs hu hus hBu hTu h hz hAu
  go_enter Tryd.func62, Tryd.ntmps62
  go_wp2_with fail
  rw [← HE.out]
  refine C.out.mono ?_
  rintro e w3 ⟨r, hEv, hb3, hans⟩
  have HSt : Hid (∃ x y a n cap v, e = .returned (.tuple #[.agg #[.int .i64 x, .int .i64 y, .slice a n cap], v]) ∧ RowR z w u k o 2 6 w3.heap.size v (w3.alloc (.cells #[.int .i64 x, .int .i64 y, .slice a n cap] 24)) ∧ w3.heap.size ≠ z.b ∧ w.heap.size < w3.heap.size) := by
    have hT3 : Tri w3 w.heap.size (.int .i64 0) (.int .i64 0) (.slice none 0 0) := HU.out.1.but hb3 hne
    have hBt := HU.out.2.1.trans hb3
    have hsz := hb3.size
    cases r with
    | error q =>
      obtain ⟨c, m⟩ := q
      obtain ⟨x, y, a, n, cap, k', he, hm, hAt, hcc⟩ := hans
      exact ⟨x, y, a, n, cap, _, he, Or.inr ⟨x, y, a, n, cap, k', c, m, rfl, tri_new _ _ _ _, hAt.alloc _, hm, hcc, ev2_err hEv, hBt.alloc _, hT3.alloc _⟩, by have := hAt.1.lt; omega, hT3.lt⟩
    | ok q =>
      obtain ⟨t, s⟩ := q
      obtain ⟨a, cap, k', he, hkd, hc, hAt, hs⟩ := hans
      subst hs
      have hlen := hEv.len
      rw [lft_len, lft_len] at hlen
      refine ⟨t.kind, t.num, a, t.cnt, cap, _, he, Or.inl ⟨t, a, cap, k', rfl, tri_new _ _ _ _, ?_, hc, hAt.alloc _, by have := hAt.2.2; omega, fun q hq => ev2_ok hEv hq, hBt.alloc _, hT3.alloc _⟩, by have := hAt.1.lt; omega, hT3.lt⟩
      exact ky_of hkd _
  clear C hEv hb3 hans
  obtain ⟨x, y, a, n, cap, v, rfl, hR0, hne3, hx3⟩ := HSt.out
  have HR0 := hid hR0
  clear HSt hR0
  go_wp2_with fail
  go_loopw [11] (fun v wr => Hid (RowR z w u k o 2 6 w3.heap.size v wr)) (fun v wr => match v with | .nilIface => z.S.size + 1 - (match wr.cell? ⟨z.b, 2, none⟩ with | some (.int _ q) => q.toNat | _ => 0) | _ => 0)
  case atStart => exact HR0
  case round =>
    have hxy : w.heap.size ≠ w3.heap.size := by omega
    have hyx : w3.heap.size ≠ w.heap.size := by omega
    have hu3 : u.heap.size ≤ w3.heap.size := by have := HU.out.2.2; omega
    rcases hrel.out with ⟨t, a', cap', k', hv, hTy, hkd, hc, hAt, hkk, hcont, hBt, hTx⟩ | ⟨x', y', a', n', cap', k', c, m, hv, hTy, hAt, hm, hcc, hev, hBt, hTx⟩
    · subst hv
      have HK : Hid (Kds (hi u.heap.size (msk w3.heap.size wr)) t a' ∧ t.cnt ≤ 2 ∧ (∀ q, Ev z.N z.M 6 t (lft z.S k') o q → Ev z.N z.M 2 .leaf (lft z.S k) o q)) := ⟨hkd, hc, hcont⟩
      have H4 : Hid (z.At wr k' o ∧ Tri wr w3.heap.size (.int .i64 t.kind) (.int .i64 t.num) (.slice a' t.cnt cap') ∧ But z.b w wr ∧ Tri wr w.heap.size (.int .i64 0) (.int .i64 0) (.slice none 0 0)) := ⟨hAt, hTy, hBt, hTx⟩
      have hp2 := hAt.1.c2
      clear hrel hTy hkd hc hAt hcont hBt hTx HR0
      by_cases hC : ∃ r, lft z.S k' = 38 :: r
      · obtain ⟨r, hy⟩ := hC
        have C4 := hid (take_yes HZ.out 38 H4.out.1 hy)
        have HGo : Hid (∀ b s2 q, Ev z.N z.M 3 .leaf (skp r) o (.ok (b, s2)) → Ev z.N z.M 6 (tw 5 t b) s2 o q → Ev z.N z.M 2 .leaf (lft z.S k) o q) := fun b s2 q h1 h2 => HK.out.2.2 q (by rw [hy]; exact ev6_go h1 h2)
        have HGe : Hid (∀ e, Ev z.N z.M 3 .leaf (skp r) o (.error e) → Ev z.N z.M 2 .leaf (lft z.S k) o (.error e)) := fun e h1 => HK.out.2.2 _ (by rw [hy]; exact ev6_err h1)
        clear hy
        go_wp2_with fail
        refine C4.out.mono ?_
        rintro e w5 ⟨rfl, hb5, k2, hA5, hl5, hk5⟩
        obtain ⟨w6, hw6⟩ : ∃ y, y = w5.alloc (.cells #[.int .i64 0, .int .i64 0, .slice none 0 0] 24) := ⟨_, rfl⟩
        have hs6 : w6.heap.size = w5.heap.size + 1 := by rw [hw6]; simp
        have hTy5 := H4.out.2.1.but hb5 hne3
        have hTx5 := H4.out.2.2.2.but hb5 hne
        have hylt := hTy5.lt
        have hn5 : w5.heap.size ≠ z.b := by have := hA5.1.lt; omega
        have H6 : Hid (z.At w6 k2 o ∧ But z.b w w6 ∧ But z.b wr w6 ∧ Tri w6 w3.heap.size (.int .i64 t.kind) (.int .i64 t.num) (.slice a' t.cnt cap') ∧ Tri w6 w.heap.size (.int .i64 0) (.int .i64 0) (.slice none 0 0) ∧ Tri w6 w5.heap.size (.int .i64 0) (.int .i64 0) (.slice none 0 0) ∧ w6.heap.size = w5.heap.size + 1) := by
          refine ⟨?_, ?_, ?_, ?_, ?_, ?_, hs6⟩
          · rw [hw6]; exact hA5.alloc _
          · rw [hw6]; exact (H4.out.2.2.1.trans hb5).alloc _
          · rw [hw6]; exact hb5.alloc _
          · rw [hw6]; exact hTy5.alloc _
          · rw [hw6]; exact hTx5.alloc _
          · rw [hw6]; exact tri_new _ _ _ _
        have hk2s := hA5.2.2
        have C6 := hid (HS.out k2 (by omega) hk2s o ho w6 H6.out.1)
        have HL5 := hid hl5
        have HE6 := hid hw6
        have hsr := hb5.size
        clear C4 hb5 hA5 hl5 hw6 hs6 hTy5 hTx5
        go_wp2_with fail
        rw [← HE6.out]
        refine C6.out.mono ?_
        rintro e w7 ⟨r7, hEv7, hb7, hans7⟩
        rw [HL5.out] at hEv7
        have hsz7 := hb7.size
        have hs65 := H6.out.2.2.2.2.2.2
        have hTy7 := H6.out.2.2.2.1.but hb7 hne3
        have hTx7 := H6.out.2.2.2.2.1.but hb7 hne
        have hTz7 := H6.out.2.2.2.2.2.1.but hb7 hn5
        have HEv7 := hid hEv7
        have H7 : Hid (But z.b w w7 ∧ But z.b wr w7 ∧ Tri w7 w3.heap.size (.int .i64 t.kind) (.int .i64 t.num) (.slice a' t.cnt cap') ∧ Tri w7 w.heap.size (.int .i64 0) (.int .i64 0) (.slice none 0 0) ∧ Tri w7 w5.heap.size (.int .i64 0) (.int .i64 0) (.slice none 0 0)) := ⟨H6.out.2.1.trans hb7, H6.out.2.2.1.trans hb7, hTy7, hTx7, hTz7⟩
        obtain ⟨⟨g0, g1, g2⟩, j0, j1, j2⟩ := tri_cells hTy7
        obtain ⟨⟨d0, d1, d2⟩, f0, f1, f2⟩ := tri_cells hTz7
        have hzy : w5.heap.size ≠ w3.heap.size := by omega
        have hyz : w3.heap.size ≠ w5.heap.size := by omega
        have hylt7 := hTy7.lt
        have hzlt7 := hTz7.lt
        have hw0y : z.w0.heap.size ≤ w3.heap.size := by have h1 := HA.out.2.1.size; omega
        have hw0z : z.w0.heap.size ≤ w5.heap.size := by omega
        have hby : z.b ≠ w3.heap.size := fun e => hne3 e.symm
        have hbz : z.b ≠ w5.heap.size := fun e => hn5 e.symm
        clear C6 hEv7 hb7 hTy7 hTx7 hTz7
        cases r7 with
        | error q7 =>
          obtain ⟨c, m⟩ := q7
          obtain ⟨x7, y7, a7, n7, cap7, k7, rfl, hm, hAt7, hcc⟩ := hans7
          obtain ⟨ea, hea⟩ : ∃ y, erV z.V1 z.V2 z.V3 z.V5 c ((z.S.size - m : Nat) : Int) = .iface 72 y := ⟨_, rfl⟩
          rw [hea]
          have HEa := hid hea
          have HKe : Hid (m ≤ z.S.size ∧ (c = 3 ∨ c = 4 ∨ c = 5)) := ⟨hm, hcc⟩
          obtain ⟨w8, hw8⟩ : ∃ y', y' = (((w7.setCell ⟨w5.heap.size, 0, none⟩ (.int .i64 x7)).setCell ⟨w5.heap.size, 1, none⟩ (.int .i64 y7)).setCell ⟨w5.heap.size, 2, none⟩ (.slice a7 n7 cap7)).alloc (.cells #[.int .i64 t.kind, .int .i64 t.num, .slice a' t.cnt cap', .int .i64 x7, .int .i64 y7, .slice a7 n7 cap7] 24) := ⟨_, rfl⟩
          have H8 : Hid (z.At w8 k7 o ∧ But z.b w w8 ∧ Tri w8 w3.heap.size (.int .i64 t.kind) (.int .i64 t.num) (.slice a' t.cnt cap') ∧ Tri w8 w.heap.size (.int .i64 0) (.int .i64 0) (.slice none 0 0)) := by
            rw [hw8]
            exact ⟨(hAt7.tri hbz hw0z _ _ _).alloc _, (but_tri H7.out.1 (by omega) _ _ _).alloc _, (tri_set_other H7.out.2.2.1 hyz _ _ _).alloc _, (tri_set_other H7.out.2.2.2.1 (by omega) _ _ _).alloc _⟩
          have HE8 := hid hw8
          clear hm hcc hAt7 hea hw8
          go_wp2_with fail
          rw [← HE8.out]
          refine (HP.out _ _ _ _ _).mono ?_
          rintro e w9 ⟨rfl, hb9⟩
          have hTy9 := H8.out.2.2.1.below hb9 H8.out.2.2.1.lt
          have hTx9 := H8.out.2.2.2.below hb9 H8.out.2.2.2.lt
          have H9 : Hid (z.At w9 k7 o ∧ But z.b w w9 ∧ Tri w9 w3.heap.size (.int .i64 t.kind) (.int .i64 t.num) (.slice a' t.cnt cap') ∧ Tri w9 w.heap.size (.int .i64 0) (.int .i64 0) (.slice none 0 0)) := ⟨H8.out.1.below hb9, H8.out.2.1.trans (But.of_below hb9), hTy9, hTx9⟩
          clear g0 g1 g2 j0 j1 j2 d0 d1 d2 f0 f1 f2
          obtain ⟨⟨g0, g1, g2⟩, j0, j1, j2⟩ := tri_cells hTy9
          clear hb9 hTy9 hTx9
          go_wp2
          go_roundw
          case rel =>
            refine hid (Or.inr ⟨5, 0, _, 2, 2, k7, c, m, HEa.out.symm, tri_set H9.out.2.2.1 _ _ _, H9.out.1.tri hby hw0y _ _ _, HKe.out.1, HKe.out.2, HGe.out _ HEv7.out, but_tri H9.out.2.1 (by omega) _ _ _, tri_set_other H9.out.2.2.2 hxy _ _ _⟩)
          case measure =>
            simp only [hp2]
            have e1 : ((k' : Int)).toNat = k' := by omega
            rw [e1]
            omega
        | ok q7 =>
          obtain ⟨t2, s2⟩ := q7
          obtain ⟨a2, cap2, k7, rfl, hkd7, hc7, hAt7, hs7⟩ := hans7
          subst hs7
          have hlen := HEv7.out.len
          have hsl : (skp r).length = z.S.size - k2 := by rw [← HL5.out, lft_len]
          rw [lft_len, hsl] at hlen
          have hk7 := hAt7.2.2
          have hkk7 : k2 ≤ k7 := by omega
          obtain ⟨w8, hw8⟩ : ∃ y', y' = (((w7.setCell ⟨w5.heap.size, 0, none⟩ (.int .i64 t2.kind)).setCell ⟨w5.heap.size, 1, none⟩ (.int .i64 t2.num)).setCell ⟨w5.heap.size, 2, none⟩ (.slice a2 t2.cnt cap2)).alloc (.cells #[.int .i64 t.kind, .int .i64 t.num, .slice a' t.cnt cap', .int .i64 t2.kind, .int .i64 t2.num, .slice a2 t2.cnt cap2] 24) := ⟨_, rfl⟩
          have hold : ∀ j, j ≠ w5.heap.size → j < w7.heap.size → w8.heap[j]? = w7.heap[j]? := fun j h1 h2 => by
            rw [hw8, Go.Deep.blk_alloc_lt _ _ _ (by rw [size_tri]; exact h2), blk_tri h1]
          have hnew : w8.heap[w7.heap.size]? = some (.cells #[.int .i64 t.kind, .int .i64 t.num, .slice a' t.cnt cap', .int .i64 t2.kind, .int .i64 t2.num, .slice a2 t2.cnt cap2] 24 (0, 0)) := by
            rw [hw8, show w7.heap.size = (((w7.setCell ⟨w5.heap.size, 0, none⟩ (.int .i64 t2.kind)).setCell ⟨w5.heap.size, 1, none⟩ (.int .i64 t2.num)).setCell ⟨w5.heap.size, 2, none⟩ (.slice a2 t2.cnt cap2)).heap.size by rw [size_tri]]
            exact Go.Deep.blk_alloc_new _ _
          have hkA : Kds (hi u.heap.size (msk w3.heap.size w8)) t a' := ky_keep HK.out.1 (fun j h1 h2 h3 => by rw [hold j (by omega) (by omega)]; exact H7.out.2.1.block j h3 (by have := HA.out.1.lt; have := HU.out.2.2; omega))
          have hkB : Kds (hi u.heap.size (msk w3.heap.size w8)) t2 a2 := ky_new (B2 := w6.heap.size) (kd_keep hkd7 (fun j h1 h2 => hold j (by omega) h2)) (by omega) (by omega)
          have hkC : Kds (hi u.heap.size (msk w3.heap.size w8)) (tw 5 t t2) (some ⟨w7.heap.size, 0, none⟩) := kd_tw (cap := cap') (cap' := cap2) (by omega) ((msk_at (by omega)).trans hnew) hkA HK.out.2.1 hkB hc7
          have H8 : Hid (z.At w8 k7 o ∧ But z.b w w8 ∧ Tri w8 w3.heap.size (.int .i64 t.kind) (.int .i64 t.num) (.slice a' t.cnt cap') ∧ Tri w8 w.heap.size (.int .i64 0) (.int .i64 0) (.slice none 0 0) ∧ Kds (hi u.heap.size (msk w3.heap.size w8)) (tw 5 t t2) (some ⟨w7.heap.size, 0, none⟩)) := by
            refine ⟨?_, ?_, ?_, ?_, hkC⟩
            · rw [hw8]; exact (hAt7.tri hbz hw0z _ _ _).alloc _
            · rw [hw8]; exact (but_tri H7.out.1 (by omega) _ _ _).alloc _
            · rw [hw8]; exact (tri_set_other H7.out.2.2.1 hyz _ _ _).alloc _
            · rw [hw8]; exact (tri_set_other H7.out.2.2.2.1 (by omega) _ _ _).alloc _
          have HE8 := hid hw8
          clear hkd7 hc7 hAt7 hw8 hold hnew hkA hkB hkC
          go_wp2_with fail
          rw [← HE8.out]
          refine (HP.out _ _ _ _ _).mono ?_
          rintro e w9 ⟨rfl, hb9⟩
          have hTy9 := H8.out.2.2.1.below hb9 H8.out.2.2.1.lt
          have hTx9 := H8.out.2.2.2.1.below hb9 H8.out.2.2.2.1.lt
          have H9 : Hid (z.At w9 k7 o ∧ But z.b w w9 ∧ Tri w9 w3.heap.size (.int .i64 t.kind) (.int .i64 t.num) (.slice a' t.cnt cap') ∧ Tri w9 w.heap.size (.int .i64 0) (.int .i64 0) (.slice none 0 0) ∧ Kds (hi u.heap.size (msk w3.heap.size w9)) (tw 5 t t2) (some ⟨w7.heap.size, 0, none⟩)) :=
            ⟨H8.out.1.below hb9, H8.out.2.1.trans (But.of_below hb9), hTy9, hTx9, ky_keep H8.out.2.2.2.2 (fun j _ _ h2 => hb9.block j h2)⟩
          clear g0 g1 g2 j0 j1 j2 d0 d1 d2 f0 f1 f2
          obtain ⟨⟨g0, g1, g2⟩, j0, j1, j2⟩ := tri_cells hTy9
          have hpos := H9.out.1.1.c2
          clear hb9 hTy9 hTx9
          go_wp2
          go_roundw
          case rel =>
            refine hid (Or.inl ⟨tw 5 t t2, some ⟨w7.heap.size, 0, none⟩, 2, k7, rfl, tri_set H9.out.2.2.1 _ _ _, ?_, by show 2 ≤ 2; omega, H9.out.1.tri hby hw0y _ _ _, by omega, fun q hq => HGo.out _ _ q HEv7.out hq, but_tri H9.out.2.1 (by omega) _ _ _, tri_set_other H9.out.2.2.2.1 hxy _ _ _⟩)
            exact ky_keep H9.out.2.2.2.2 (fun j _ h2 _ => blk_tri h2 _ _ _)
          case measure =>
            have hpp := (H9.out.1.tri hby hw0y (.int .i64 5) (.int .i64 0) (.slice (some ⟨w7.heap.size, 0, none⟩) 2 2)).1.c2
            simp only [hp2, hpp]
            have e1 : ((k' : Int)).toNat = k' := by omega
            have e2 : ((k7 : Int)).toNat = k7 := by omega
            rw [e1, e2]
            omega
      · have hn : ∀ r, lft z.S k' ≠ 38 :: r := fun r hh => hC ⟨r, hh⟩
        have C4 := hid (take_no HZ.out 38 H4.out.1 hn)
        have HX := hid (HK.out.2.2 _ (ev6_end hn))
        clear hC hn
        go_wp2_with fail
        refine C4.out.mono ?_
        rintro e w5 ⟨rfl, hb5, hA5⟩
        have hTy5 := H4.out.2.1.but hb5 hne3
        have hTx5 := H4.out.2.2.2.but hb5 hne
        obtain ⟨⟨g0, g1, g2⟩, -⟩ := tri_cells hTy5
        obtain ⟨⟨d0, d1, d2⟩, f0, f1, f2⟩ := tri_cells hTx5
        have H5 : Hid (z.At w5 k' o ∧ But z.b w w5 ∧ Tri w5 w.heap.size (.int .i64 0) (.int .i64 0) (.slice none 0 0) ∧ Kds (hi u.heap.size w5) t a') := ⟨hA5, H4.out.2.2.1.trans hb5, hTx5, ky_out (ky_keep HK.out.1 (fun j h1 _ h2 => hb5.block j h2 (by have := HA.out.1.lt; have := HU.out.2.2; omega)))⟩
        clear C4 hb5 hA5 hTy5 hTx5
        go_wp2
        (try simp only [Exit.inBlock, Exit.then])
        refine bodyPost_ret (results_cell_tmp1 rfl _ _ w.heap.size 24 #[.int .i64 t.kind, .int .i64 t.num, .slice a' t.cnt cap'] (0, 0) _ rfl (tri_set H5.out.2.2.1 _ _ _) Tryd.underlying24 rfl (by kernel_rfl)) rfl ?_
        exact ⟨_, HX.out, fin_ok HZ.out HA.out H5.out.2.1 H5.out.1 H5.out.2.2.2 (by have := HU.out.2.2; omega) HK.out.2.1 rfl⟩
    · obtain ⟨ea, hea⟩ : ∃ y, erV z.V1 z.V2 z.V3 z.V5 c ((z.S.size - m : Nat) : Int) = .iface 72 y := ⟨_, rfl⟩
      rw [hea] at hv
      subst hv
      have HEa := hid hea
      have HK : Hid (m ≤ z.S.size ∧ (c = 3 ∨ c = 4 ∨ c = 5) ∧ Ev z.N z.M 2 .leaf (lft z.S k) o (.error (c, m)) ∧ z.At wr k' o ∧ But z.b w wr ∧ Tri wr w.heap.size (.int .i64 0) (.int .i64 0) (.slice none 0 0)) := ⟨hm, hcc, hev, hAt, hBt, hTx⟩
      obtain ⟨⟨g0, g1, g2⟩, -⟩ := tri_cells hTy
      obtain ⟨⟨d0, d1, d2⟩, f0, f1, f2⟩ := tri_cells hTx
      clear hrel hTy hAt hm hcc hev hBt hTx hea HR0
      go_wp2
      (try simp only [Exit.inBlock, Exit.then])
      refine bodyPost_ret (results_cell_tmp1 rfl _ _ w.heap.size 24 #[.int .i64 x', .int .i64 y', .slice a' n' cap'] (0, 0) _ rfl (tri_set HK.out.2.2.2.2.2 _ _ _) Tryd.underlying24 rfl (by kernel_rfl)) rfl ?_
      have hfin := fin_err (x := x') (y := y') (a := a') (n := n') (cap := cap') HZ.out HA.out HK.out.2.2.2.2.1 HK.out.2.2.2.1 HK.out.1 HK.out.2.1
      rw [HEa.out] at hfin
      exact ⟨_, HK.out.2.2.1, hfin⟩

set_option maxHeartbeats 8000000 in
theorem row63_any {z : Sp} (hz : z.Ok) (k : Nat) (hk : k ≤ z.S.size) (hs : ∀ k', k ≤ k' → k' ≤ z.S.size → LvC z 63 2 k') (o : Nat) (ho : o ≤ 20) (w : World) (h : z.At w k o) :
    Calls Tryd.prog 62 #[.pointer (some ⟨z.b, 0, none⟩), .int .i64 6, .string (byt [47]), .func (Fn.func 63) #[.pointer (some ⟨z.b, 0, none⟩)] #[]] w fun e w' => ∃ r, Ev z.N z.M 1 .leaf (lft z.S k) o r ∧ z.Ans w o r e w' := by
  have HZ := hid hz
  have HA := hid h
  have hlt := h.1.lt
  have hne : w.heap.size ≠ z.b := by omega
  have HS := hid hs
  obtain ⟨u, hu⟩ : ∃ y, y = w.alloc (.cells #[.int .i64 0, .int .i64 0, .slice none 0 0] 24) := ⟨_, rfl⟩
  have hus : u.heap.size = w.heap.size + 1 := by rw [hu]; simp
  have hBu : But z.b w u := by rw [hu]; exact (But.refl _ _).alloc _
  have hTu : Tri u w.heap.size (.int .i64 0) (.int .i64 0) (.slice none 0 0) := by rw [hu]; exact tri_new _ _ _ _
  have hAu : z.At u k o := by rw [hu]; exact h.alloc _
  have HU : Hid (Tri u w.heap.size (.int .i64 0) (.int .i64 0) (.slice none 0 0) ∧ But z.b w u ∧ u.heap.size = w.heap.size + 1) := ⟨hTu, hBu, hus⟩
  have C := hid (hs k (Nat.le_refl _) hk o ho u hAu)
  have HE := hid hu
  have HP : Hid (∀ K v a c cap, Calls Tryd.prog 49 #[.int .i64 K, .slice a c cap] v fun e w' => e = .returned (.agg #[.int .i64 K, .int .i64 0, .slice a c cap]) ∧ Below v.heap.size v w') := fun K v a c cap => part_any K a c cap v
  clear hs hu hus hBu hTu h hz hAu
  go_enter Tryd.func62, Tryd.ntmps62
  go_wp2_with fail
  rw [← HE.out]
  refine C.out.mono ?_
  rintro e w3 ⟨r, hEv, hb3, hans⟩
  have HSt : Hid (∃ x y a n cap v, e = .returned (.tuple #[.agg #[.int .i64 x, .int .i64 y, .slice a n cap], v]) ∧ RowR z w u k o 1 5 w3.heap.size v (w3.alloc (.cells #[.int .i64 x, .int .i64 y, .slice a n cap] 24)) ∧ w3.heap.size ≠ z.b ∧ w.heap.size < w3.heap.size) := by
    have hT3 : Tri w3 w.heap.size (.int .i64 0) (.int .i64 0) (.slice none 0 0) := HU.out.1.but hb3 hne
    have hBt := HU.out.2.1.trans hb3
    have hsz := hb3.size
    cases r with
    | error q =>
      obtain ⟨c, m⟩ := q
      obtain ⟨x, y, a, n, cap, k', he, hm, hAt, hcc⟩ := hans
      exact ⟨x, y, a, n, cap, _, he, Or.inr ⟨x, y, a, n, cap, k', c, m, rfl, tri_new _ _ _ _, hAt.alloc _, hm, hcc, ev1_err hEv, hBt.alloc _, hT3.alloc _⟩, by have := hAt.1.lt; omega, hT3.lt⟩
    | ok q =>
      obtain ⟨t, s⟩ := q
      obtain ⟨a, cap, k', he, hkd, hc, hAt, hs⟩ := hans
      subst hs
      have hlen := hEv.len
      rw [lft_len, lft_len] at hlen
      refine ⟨t.kind, t.num, a, t.cnt, cap, _, he, Or.inl ⟨t, a, cap, k', rfl, tri_new _ _ _ _, ?_, hc, hAt.alloc _, by have := hAt.2.2; omega, fun q hq => ev1_ok hEv hq, hBt.alloc _, hT3.alloc _⟩, by have := hAt.1.lt; omega, hT3.lt⟩
      exact ky_of hkd _
  clear C hEv hb3 hans
  obtain ⟨x, y, a, n, cap, v, rfl, hR0, hne3, hx3⟩ := HSt.out
  have HR0 := hid hR0
  clear HSt hR0
  go_wp2_with fail
  go_loopw [11] (fun v wr => Hid (RowR z w u k o 1 5 w3.heap.size v wr)) (fun v wr => match v with | .nilIface => z.S.size + 1 - (match wr.cell? ⟨z.b, 2, none⟩ with | some (.int _ q) => q.toNat | _ => 0) | _ => 0)
  case atStart => exact HR0
  case round =>
    have hxy : w.heap.size ≠ w3.heap.size := by omega
    have hyx : w3.heap.size ≠ w.heap.size := by omega
    have hu3 : u.heap.size ≤ w3.heap.size := by have := HU.out.2.2; omega
    rcases hrel.out with ⟨t, a', cap', k', hv, hTy, hkd, hc, hAt, hkk, hcont, hBt, hTx⟩ | ⟨x', y', a', n', cap', k', c, m, hv, hTy, hAt, hm, hcc, hev, hBt, hTx⟩
    · subst hv
      have HK : Hid (Kds (hi u.heap.size (msk w3.heap.size wr)) t a' ∧ t.cnt ≤ 2 ∧ (∀ q, Ev z.N z.M 5 t (lft z.S k') o q → Ev z.N z.M 1 .leaf (lft z.S k) o q)) := ⟨hkd, hc, hcont⟩
      have H4 : Hid (z.At wr k' o ∧ Tri wr w3.heap.size (.int .i64 t.kind) (.int .i64 t.num) (.slice a' t.cnt cap') ∧ But z.b w wr ∧ Tri wr w.heap.size (.int .i64 0) (.int .i64 0) (.slice none 0 0)) := ⟨hAt, hTy, hBt, hTx⟩
      have hp2 := hAt.1.c2
      clear hrel hTy hkd hc hAt hcont hBt hTx HR0
      by_cases hC : ∃ r, lft z.S k' = 47 :: r
      · obtain ⟨r, hy⟩ := hC
        have C4 := hid (take_yes HZ.out 47 H4.out.1 hy)
        have HGo : Hid (∀ b s2 q, Ev z.N z.M 2 .leaf (skp r) o (.ok (b, s2)) → Ev z.N z.M 5 (tw 6 t b) s2 o q → Ev z.N z.M 1 .leaf (lft z.S k) o q) := fun b s2 q h1 h2 => HK.out.2.2 q (by rw [hy]; exact ev5_go h1 h2)
        have HGe : Hid (∀ e, Ev z.N z.M 2 .leaf (skp r) o (.error e) → Ev z.N z.M 1 .leaf (lft z.S k) o (.error e)) := fun e h1 => HK.out.2.2 _ (by rw [hy]; exact ev5_err h1)
        clear hy
        go_wp2_with fail
        refine C4.out.mono ?_
        rintro e w5 ⟨rfl, hb5, k2, hA5, hl5, hk5⟩
        obtain ⟨w6, hw6⟩ : ∃ y, y = w5.alloc (.cells #[.int .i64 0, .int .i64 0, .slice none 0 0] 24) := ⟨_, rfl⟩
        have hs6 : w6.heap.size = w5.heap.size + 1 := by rw [hw6]; simp
        have hTy5 := H4.out.2.1.but hb5 hne3
        have hTx5 := H4.out.2.2.2.but hb5 hne
        have hylt := hTy5.lt
        have hn5 : w5.heap.size ≠ z.b := by have := hA5.1.lt; omega
        have H6 : Hid (z.At w6 k2 o ∧ But z.b w w6 ∧ But z.b wr w6 ∧ Tri w6 w3.heap.size (.int .i64 t.kind) (.int .i64 t.num) (.slice a' t.cnt cap') ∧ Tri w6 w.heap.size (.int .i64 0) (.int .i64 0) (.slice none 0 0) ∧ Tri w6 w5.heap.size (.int .i64 0) (.int .i64 0) (.slice none 0 0) ∧ w6.heap.size = w5.heap.size + 1) := by
          refine ⟨?_, ?_, ?_, ?_, ?_, ?_, hs6⟩
          · rw [hw6]; exact hA5.alloc _
          · rw [hw6]; exact (H4.out.2.2.1.trans hb5).alloc _
          · rw [hw6]; exact hb5.alloc _
          · rw [hw6]; exact hTy5.alloc _
          · rw [hw6]; exact hTx5.alloc _
          · rw [hw6]; exact tri_new _ _ _ _
        have hk2s := hA5.2.2
        have C6 := hid (HS.out k2 (by omega) hk2s o ho w6 H6.out.1)
        have HL5 := hid hl5
        have HE6 := hid hw6
        have hsr := hb5.size
        clear C4 hb5 hA5 hl5 hw6 hs6 hTy5 hTx5
        go_wp2_with fail
        rw [← HE6.out]
        refine C6.out.mono ?_
        rintro e w7 ⟨r7, hEv7, hb7, hans7⟩
        rw [HL5.out] at hEv7
        have hsz7 := hb7.size
        have hs65 := H6.out.2.2.2.2.2.2
        have hTy7 := H6.out.2.2.2.1.but hb7 hne3
        have hTx7 := H6.out.2.2.2.2.1.but hb7 hne
        have hTz7 := H6.out.2.2.2.2.2.1.but hb7 hn5
        have HEv7 := hid hEv7
        have H7 : Hid (But z.b w w7 ∧ But z.b wr w7 ∧ Tri w7 w3.heap.size (.int .i64 t.kind) (.int .i64 t.num) (.slice a' t.cnt cap') ∧ Tri w7 w.heap.size (.int .i64 0) (.int .i64 0) (.slice none 0 0) ∧ Tri w7 w5.heap.size (.int .i64 0) (.int .i64 0) (.slice none 0 0)) := ⟨H6.out.2.1.trans hb7, H6.out.2.2.1.trans hb7, hTy7, hTx7, hTz7⟩
        obtain ⟨⟨g0, g1, g2⟩, j0, j1, j2⟩ := tri_cells hTy7
        obtain ⟨⟨d0, d1, d2⟩, f0, f1, f2⟩ := tri_cells hTz7
        have hzy : w5.heap.size ≠ w3.heap.size := by omega
        have hyz : w3.heap.size ≠ w5.heap.size := by omega
        have hylt7 := hTy7.lt
        have hzlt7 := hTz7.lt
        have hw0y : z.w0.heap.size ≤ w3.heap.size := by have h1 := HA.out.2.1.size; omega
        have hw0z : z.w0.heap.size ≤ w5.heap.size := by omega
        have hby : z.b ≠ w3.heap.size := fun e => hne3 e.symm
        have hbz : z.b ≠ w5.heap.size := fun e => hn5 e.symm
        clear C6 hEv7 hb7 hTy7 hTx7 hTz7
        cases r7 with
        | error q7 =>
          obtain ⟨c, m⟩ := q7
          obtain ⟨x7, y7, a7, n7, cap7, k7, rfl, hm, hAt7, hcc⟩ := hans7
          obtain ⟨ea, hea⟩ : ∃ y, erV z.V1 z.V2 z.V3 z.V5 c ((z.S.size - m : Nat) : Int) = .iface 72 y := ⟨_, rfl⟩
          rw [hea]
          have HEa := hid hea
          have HKe : Hid (m ≤ z.S.size ∧ (c = 3 ∨ c = 4 ∨ c = 5)) := ⟨hm, hcc⟩
          obtain ⟨w8, hw8⟩ : ∃ y', y' = (((w7.setCell ⟨w5.heap.size, 0, none⟩ (.int .i64 x7)).setCell ⟨w5.heap.size, 1, none⟩ (.int .i64 y7)).setCell ⟨w5.heap.size, 2, none⟩ (.slice a7 n7 cap7)).alloc (.cells #[.int .i64 t.kind, .int .i64 t.num, .slice a' t.cnt cap', .int .i64 x7, .int .i64 y7, .slice a7 n7 cap7] 24) := ⟨_, rfl⟩
          have H8 : Hid (z.At w8 k7 o ∧ But z.b w w8 ∧ Tri w8 w3.heap.size (.int .i64 t.kind) (.int .i64 t.num) (.slice a' t.cnt cap') ∧ Tri w8 w.heap.size (.int .i64 0) (.int .i64 0) (.slice none 0 0)) := by
            rw [hw8]
            exact ⟨(hAt7.tri hbz hw0z _ _ _).alloc _, (but_tri H7.out.1 (by omega) _ _ _).alloc _, (tri_set_other H7.out.2.2.1 hyz _ _ _).alloc _, (tri_set_other H7.out.2.2.2.1 (by omega) _ _ _).alloc _⟩
          have HE8 := hid hw8
          clear hm hcc hAt7 hea hw8
          go_wp2_with fail
          rw [← HE8.out]
          refine (HP.out _ _ _ _ _).mono ?_
          rintro e w9 ⟨rfl, hb9⟩
          have hTy9 := H8.out.2.2.1.below hb9 H8.out.2.2.1.lt
          have hTx9 := H8.out.2.2.2.below hb9 H8.out.2.2.2.lt
          have H9 : Hid (z.At w9 k7 o ∧ But z.b w w9 ∧ Tri w9 w3.heap.size (.int .i64 t.kind) (.int .i64 t.num) (.slice a' t.cnt cap') ∧ Tri w9 w.heap.size (.int .i64 0) (.int .i64 0) (.slice none 0 0)) := ⟨H8.out.1.below hb9, H8.out.2.1.trans (But.of_below hb9), hTy9, hTx9⟩
          clear g0 g1 g2 j0 j1 j2 d0 d1 d2 f0 f1 f2
          obtain ⟨⟨g0, g1, g2⟩, j0, j1, j2⟩ := tri_cells hTy9
          clear hb9 hTy9 hTx9
          go_wp2
          go_roundw
          case rel =>
            refine hid (Or.inr ⟨6, 0, _, 2, 2, k7, c, m, HEa.out.symm, tri_set H9.out.2.2.1 _ _ _, H9.out.1.tri hby hw0y _ _ _, HKe.out.1, HKe.out.2, HGe.out _ HEv7.out, but_tri H9.out.2.1 (by omega) _ _ _, tri_set_other H9.out.2.2.2 hxy _ _ _⟩)
          case measure =>
            simp only [hp2]
            have e1 : ((k' : Int)).toNat = k' := by omega
            rw [e1]
            omega
        | ok q7 =>
          obtain ⟨t2, s2⟩ := q7
          obtain ⟨a2, cap2, k7, rfl, hkd7, hc7, hAt7, hs7⟩ := hans7
          subst hs7
          have hlen := HEv7.out.len
          have hsl : (skp r).length = z.S.size - k2 := by rw [← HL5.out, lft_len]
          rw [lft_len, hsl] at hlen
          have hk7 := hAt7.2.2
          have hkk7 : k2 ≤ k7 := by omega
          obtain ⟨w8, hw8⟩ : ∃ y', y' = (((w7.setCell ⟨w5.heap.size, 0, none⟩ (.int .i64 t2.kind)).setCell ⟨w5.heap.size, 1, none⟩ (.int .i64 t2.num)).setCell ⟨w5.heap.size, 2, none⟩ (.slice a2 t2.cnt cap2)).alloc (.cells #[.int .i64 t.kind, .int .i64 t.num, .slice a' t.cnt cap', .int .i64 t2.kind, .int .i64 t2.num, .slice a2 t2.cnt cap2] 24) := ⟨_, rfl⟩
          have hold : ∀ j, j ≠ w5.heap.size → j < w7.heap.size → w8.heap[j]? = w7.heap[j]? := fun j h1 h2 => by
            rw [hw8, Go.Deep.blk_alloc_lt _ _ _ (by rw [size_tri]; exact h2), blk_tri h1]
          have hnew : w8.heap[w7.heap.size]? = some (.cells #[.int .i64 t.kind, .int .i64 t.num, .slice a' t.cnt cap', .int .i64 t2.kind, .int .i64 t2.num, .slice a2 t2.cnt cap2] 24 (0, 0)) := by
            rw [hw8, show w7.heap.size = (((w7.setCell ⟨w5.heap.size, 0, none⟩ (.int .i64 t2.kind)).setCell ⟨w5.heap.size, 1, none⟩ (.int .i64 t2.num)).setCell ⟨w5.heap.size, 2, none⟩ (.slice a2 t2.cnt cap2)).heap.size by rw [size_tri]]
            exact Go.Deep.blk_alloc_new _ _
          have hkA : Kds (hi u.heap.size (msk w3.heap.size w8)) t a' := ky_keep HK.out.1 (fun j h1 h2 h3 => by rw [hold j (by omega) (by omega)]; exact H7.out.2.1.block j h3 (by have := HA.out.1.lt; have := HU.out.2.2; omega))
          have hkB : Kds (hi u.heap.size (msk w3.heap.size w8)) t2 a2 := ky_new (B2 := w6.heap.size) (kd_keep hkd7 (fun j h1 h2 => hold j (by omega) h2)) (by omega) (by omega)
          have hkC : Kds (hi u.heap.size (msk w3.heap.size w8)) (tw 6 t t2) (some ⟨w7.heap.size, 0, none⟩) := kd_tw (cap := cap') (cap' := cap2) (by omega) ((msk_at (by omega)).trans hnew) hkA HK.out.2.1 hkB hc7
          have H8 : Hid (z.At w8 k7 o ∧ But z.b w w8 ∧ Tri w8 w3.heap.size (.int .i64 t.kind) (.int .i64 t.num) (.slice a' t.cnt cap') ∧ Tri w8 w.heap.size (.int .i64 0) (.int .i64 0) (.slice none 0 0) ∧ Kds (hi u.heap.size (msk w3.heap.size w8)) (tw 6 t t2) (some ⟨w7.heap.size, 0, none⟩)) := by
            refine ⟨?_, ?_, ?_, ?_, hkC⟩
            · rw [hw8]; exact (hAt7.tri hbz hw0z _ _ _).alloc _
            · rw [hw8]; exact (but_tri H7.out.1 (by omega) _ _ _).alloc _
            · rw [hw8]; exact (tri_set_other H7.out.2.2.1 hyz _ _ _).alloc _
            · rw [hw8]; exact (tri_set_other H7.out.2.2.2.1 (by omega) _ _ _).alloc _
          have HE8 := hid hw8
          clear hkd7 hc7 hAt7 hw8 hold hnew hkA hkB hkC
          go_wp2_with fail
          rw [← HE8.out]
          refine (HP.out _ _ _ _ _).mono ?_
          rintro e w9 ⟨rfl, hb9⟩
          have hTy9 := H8.out.2.2.1.below hb9 H8.out.2.2.1.lt
          have hTx9 := H8.out.2.2.2.1.below hb9 H8.out.2.2.2.1.lt
          have H9 : Hid (z.At w9 k7 o ∧ But z.b w w9 ∧ Tri w9 w3.heap.size (.int .i64 t.kind) (.int .i64 t.num) (.slice a' t.cnt cap') ∧ Tri w9 w.heap.size (.int .i64 0) (.int .i64 0) (.slice none 0 0) ∧ Kds (hi u.heap.size (msk w3.heap.size w9)) (tw 6 t t2) (some ⟨w7.heap.size, 0, none⟩)) :=
            ⟨H8.out.1.below hb9, H8.out.2.1.trans (But.of_below hb9), hTy9, hTx9, ky_keep H8.out.2.2.2.2 (fun j _ _ h2 => hb9.block j h2)⟩
          clear g0 g1 g2 j0 j1 j2 d0 d1 d2 f0 f1 f2
          obtain ⟨⟨g0, g1, g2⟩, j0, j1, j2⟩ := tri_cells hTy9
          have hpos := H9.out.1.1.c2
          clear hb9 hTy9 hTx9
          go_wp2
          go_roundw
          case rel =>
            refine hid (Or.inl ⟨tw 6 t t2, some ⟨w7.heap.size, 0, none⟩, 2, k7, rfl, tri_set H9.out.2.2.1 _ _ _, ?_, by show 2 ≤ 2; omega, H9.out.1.tri hby hw0y _ _ _, by omega, fun q hq => HGo.out _ _ q HEv7.out hq, but_tri H9.out.2.1 (by omega) _ _ _, tri_set_other H9.out.2.2.2.1 hxy _ _ _⟩)
            exact ky_keep H9.out.2.2.2.2 (fun j _ h2 _ => blk_tri h2 _ _ _)
          case measure =>
            have hpp := (H9.out.1.tri hby hw0y (.int .i64 6) (.int .i64 0) (.slice (some ⟨w7.heap.size, 0, none⟩) 2 2)).1.c2
            simp only [hp2, hpp]
            have e1 : ((k' : Int)).toNat = k' := by omega
            have e2 : ((k7 : Int)).toNat = k7 := by omega
            rw [e1, e2]
            omega
      · have hn : ∀ r, lft z.S k' ≠ 47 :: r := fun r hh => hC ⟨r, hh⟩
        have C4 := hid (take_no HZ.out 47 H4.out.1 hn)
        have HX := hid (HK.out.2.2 _ (ev5_end hn))
        clear hC hn
        go_wp2_with fail
        refine C4.out.mono ?_
        rintro e w5 ⟨rfl, hb5, hA5⟩
        have hTy5 := H4.out.2.1.but hb5 hne3
        have hTx5 := H4.out.2.2.2.but hb5 hne
        obtain ⟨⟨g0, g1, g2⟩, -⟩ := tri_cells hTy5
        obtain ⟨⟨d0, d1, d2⟩, f0, f1, f2⟩ := tri_cells hTx5
        have H5 : Hid (z.At w5 k' o ∧ But z.b w w5 ∧ Tri w5 w.heap.size (.int .i64 0) (.int .i64 0) (.slice none 0 0) ∧ Kds (hi u.heap.size w5) t a') := ⟨hA5, H4.out.2.2.1.trans hb5, hTx5, ky_out (ky_keep HK.out.1 (fun j h1 _ h2 => hb5.block j h2 (by have := HA.out.1.lt; have := HU.out.2.2; omega)))⟩
        clear C4 hb5 hA5 hTy5 hTx5
        go_wp2
        (try simp only [Exit.inBlock, Exit.then])
        refine bodyPost_ret (results_cell_tmp1 rfl _ _ w.heap.size 24 #[.int .i64 t.kind, .int .i64 t.num, .slice a' t.cnt cap'] (0, 0) _ rfl (tri_set H5.out.2.2.1 _ _ _) Tryd.underlying24 rfl (by kernel_rfl)) rfl ?_
        exact ⟨_, HX.out, fin_ok HZ.out HA.out H5.out.2.1 H5.out.1 H5.out.2.2.2 (by have := HU.out.2.2; omega) HK.out.2.1 rfl⟩
    · obtain ⟨ea, hea⟩ : ∃ y, erV z.V1 z.V2 z.V3 z.V5 c ((z.S.size - m : Nat) : Int) = .iface 72 y := ⟨_, rfl⟩
      rw [hea] at hv
      subst hv
      have HEa := hid hea
      have HK : Hid (m ≤ z.S.size ∧ (c = 3 ∨ c = 4 ∨ c = 5) ∧ Ev z.N z.M 1 .leaf (lft z.S k) o (.error (c, m)) ∧ z.At wr k' o ∧ But z.b w wr ∧ Tri wr w.heap.size (.int .i64 0) (.int .i64 0) (.slice none 0 0)) := ⟨hm, hcc, hev, hAt, hBt, hTx⟩
      obtain ⟨⟨g0, g1, g2⟩, -⟩ := tri_cells hTy
      obtain ⟨⟨d0, d1, d2⟩, f0, f1, f2⟩ := tri_cells hTx
      clear hrel hTy hAt hm hcc hev hBt hTx hea HR0
      go_wp2
      (try simp only [Exit.inBlock, Exit.then])
      refine bodyPost_ret (results_cell_tmp1 rfl _ _ w.heap.size 24 #[.int .i64 x', .int .i64 y', .slice a' n' cap'] (0, 0) _ rfl (tri_set HK.out.2.2.2.2.2 _ _ _) Tryd.underlying24 rfl (by kernel_rfl)) rfl ?_
      have hfin := fin_err (x := x') (y := y') (a := a') (n := n') (cap := cap') HZ.out HA.out HK.out.2.2.2.2.1 HK.out.2.2.2.1 HK.out.1 HK.out.2.1
      rw [HEa.out] at hfin
      exact ⟨_, HK.out.2.2.1, hfin⟩

end Go.Proofs.YtgpjlgffmlkkoaaDoor
