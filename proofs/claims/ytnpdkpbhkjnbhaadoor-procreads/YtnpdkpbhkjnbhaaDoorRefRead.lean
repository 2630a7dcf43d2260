/- The document's ReadProcess. -/
import Derived.Test.YtnpdkpbhkjnbhaaDoorRefRead0
import Derived.Deep.RegionHeld3
import Derived.Deep.RegionWith
namespace Go.Proofs.YtnpdkpbhkjnbhaaDoor
open Go.RowKit

theorem ws_opt {w : World} {B n c : Nat} {a : Option Addr} {l : List (List UInt8)} (h : w.ownsRow B 9 1 (.slice a n c) n (strs l)) (hn : n = l.length) : ∃ g, (0 < n → a = some ⟨g, 0, none⟩) ∧ (0 < n → Ws w g l) := by
  rcases h.2 with ⟨h1, h0⟩ | ⟨g, cap, cur, h1, _⟩
  · exact ⟨0, fun hh => by omega, fun hh => by omega⟩
  · cases h1
    exact ⟨g, fun _ => rfl, fun _ => ws_of h hn⟩

/-- What the lines' loop keeps. -/
structure Rl (U wr : World) (d : Nat) (s : List UInt8) (L : List (List UInt8)) (gL i at_ m : Nat) (v6 : Value) (x : Dft) (V C : Nat → Nat) (vn : Value) : Prop where
  len : x.2.length = m
  at_ : at_ = if x.2.length = 0 then 0 else x.1.length
  st : st s i = some ((L.drop i).flatten, x)
  dp : Dp wr d d x.1 (fun _ => 0) (fun _ => 0) 0 vn (.slice none 0 0)
  nm : Nm wr d v6 x.2 V C
  ws : 0 < L.length → Ws wr gL L
  below : Below d U wr

theorem Rl.later {U wr u : World} {d : Nat} {s : List UInt8} {L : List (List UInt8)} {gL i at_ m : Nat} {v6 : Value} {x : Dft} {V C : Nat → Nat} {vn : Value} (h : Rl U wr d s L gL i at_ m v6 x V C vn) (hb : Below wr.heap.size wr u) (hd : d ≤ wr.heap.size) : Rl U u d s L gL i at_ m v6 x V C vn :=
  ⟨h.len, h.at_, h.st, h.dp.later hb, h.nm.later hb, fun h0 => (h.ws h0).k9 (k9_below hb), h.below.trans (hb.mono hd)⟩

theorem idx_str (b : ByteArray) (n : Nat) (c : Int) (h : n < b.size) (hc : (b[n].toNat : Int) = c) (u : World) : (Instr.index 9 (.string b) (.int .i64 n)).run Tryd.prog u = .ok (.int .u8 c) u := by
  have h9 : Tryd.prog.underlying 9 = some .string := by kernel_rfl
  have e : b[(n : Int).toNat]? = some b[n] := by simp [h]
  simp [Instr.index, run_underlying h9, asIntOf, go_sem, h, hc]

/-- What Cut answers, as words. -/
theorem cutWs {w u : World} (bl : ByteArray) (l : List UInt8) (hbl : bl.data.toList = l) (hl : l.length ≤ 4096) (hu : Below w.heap.size w u) (W : List (List UInt8)) (hW : W = wds l) :
    Calls Tryd.prog 25 #[.string bl] u fun e w' => Below w.heap.size w w' ∧ ∃ g c, e = .returned (.slice (some ⟨g, 0, none⟩) W.length c) ∧ Ws w' g W ∧ w.heap.size ≤ g := by
  subst hW
  refine (cutRef_any bl l u hbl hl).mono ?_
  rintro e w' ⟨hb, g, c, rfl, ho⟩
  exact ⟨hu.trans (hb.mono hu.size), g, c, rfl, ws_of ho rfl, by have := (ho.lt g rfl).1; have := hu.size; omega⟩

/-- How far the kinds have been looked at. -/
def KdTo (a : ByteArray) (k κ : Nat) : Prop := (κ = 0 ∧ ∀ j, 1 ≤ j → j < k → kw j ≠ a) ∨ (κ ≠ 0 ∧ κ = kOf a)

theorem KdTo.hit {a : ByteArray} {k : Nat} (h1 : 1 ≤ k) (h7 : k ≤ 7) (hk : kw k = a) : KdTo a (k + 1) k := Or.inr ⟨by omega, by rw [← hk, kOf_kw h1 h7]⟩

theorem KdTo.miss {a : ByteArray} {k κ : Nat} (h : KdTo a k κ) (hk : kw k ≠ a) : KdTo a (k + 1) κ := by
  rcases h with ⟨h0, h⟩ | h
  · refine Or.inl ⟨h0, fun j h1 h2 => ?_⟩
    by_cases e : j = k
    · subst e; exact hk
    · exact h j h1 (by omega)
  · exact Or.inr h

theorem KdTo.done {a : ByteArray} {κ : Nat} (h : KdTo a 8 κ) : κ = kOf a := by
  rcases h with ⟨h0, h⟩ | ⟨_, h⟩
  · rw [h0, kOf_none (fun j h1 h2 => h j h1 (by omega))]
  · exact h

theorem getD2_lt {L : List (List UInt8)} {i : Nat} (h : i < L.length) : L.getD i [] = L[i] := by simp [h]

theorem ws_map {w : World} {g : Nat} {W : List (List UInt8)} (h : Ws w g W) : Ws w g ((W.map byt).map (·.data.toList)) := by
  have e : (W.map byt).map (·.data.toList) = W := by
    rw [List.map_map]
    have : ((fun x : ByteArray => x.data.toList) ∘ byt) = id := by funext z; exact data_byt z
    rw [this, List.map_id]
  rw [e]
  exact h

theorem ws_at {w : World} {g : Nat} {l : List ByteArray} (h : Ws w g (l.map (·.data.toList))) (j : Nat) (z : ByteArray) (hj : l[j]? = some z) : w.cell? ⟨g, j, none⟩ = some (.string z) := by
  obtain ⟨hlt, e⟩ := List.getElem?_eq_some_iff.1 hj
  have := h.cell (i := j) (by simpa using hlt)
  rw [this]
  have e2 : (l.map (·.data.toList)).getD j [] = z.data.toList := by simp [hj]
  rw [e2]
  rfl

theorem ws_back {w : World} {g : Nat} {b c : ByteArray} (h : Ws w g ([flowWd, b, c].map (·.data.toList))) : Ws w g [flowWd.data.toList, b.data.toList, c.data.toList] := h

/-- The names grow by whatever was read. -/
theorem nm_grow {U w wr w2 : World} {d r : Nat} {s : List UInt8} {L : List (List UInt8)} {gL i at_ m : Nat} {v6 v' : Value} {x : Dft} {V C : Nat → Nat} {vn : Value} {o : Obj} {ys : List Value} (h : Rl U wr d s L gL i at_ m v6 x V C vn)
    (hown : w2.ownsRow d 62 1 v' (m + 1) ys) (hgrow : (wr.alloc o).grownBy w2 v6.ownBlock) (hd : d ≤ wr.heap.size) (hT : Two wr r none none 0 0 0 0) (hr : r < d) (hB : Below r w wr) :
    (∃ a c, v' = .slice a (m + 1) c) ∧ (w2.cell? ⟨r, 0, none⟩ = some (.slice none 0 0) ∧ w2.cell? ⟨r, 1, none⟩ = some (.slice none 0 0) ∧ w2.frozen? ⟨r, 0, none⟩ = false ∧ w2.frozen? ⟨r, 1, none⟩ = false) ∧ Hid (Two w2 r none none 0 0 0 0 ∧ Below r w w2) := by
  have hb : Below d wr w2 := (Below.refl d wr).grown ((World.grownBy_alloc wr o _).trans hgrow) hd (fun b e => (h.nm.own.lt b e).1)
  have hT2 : Two w2 r none none 0 0 0 0 := (hb.block r hr).trans hT
  refine ⟨?_, two_cells0 hT2, hid ⟨hT2, hB.trans (hb.mono (by omega))⟩⟩
  obtain ⟨a, c, h1, _⟩ := owns_form hown
  exact ⟨a, c, h1⟩

theorem st_count {s : List UInt8} {k : Nat} {r : List UInt8} {x : Dft} (h : st s k = some (r, x)) : k = x.1.length + x.2.length := (st_text h).2.2

theorem two_cells_drew (w : World) (a b : Value) (t : TypeId) : ∀ j u, [a, b][j]? = some u → (w.alloc (.cells #[a, b] t)).drew.cell? ((⟨w.heap.size, 0, none⟩ : Addr).add j) = some u := fun j u h => two_cells w a b t j u h

/-- One node more. -/
theorem rl_node {U wr w2 : World} {d : Nat} {s : List UInt8} {L : List (List UInt8)} {gL i at_ : Nat} {v6 : Value} {x : Dft} {V C : Nat → Nat} {vn : Value} {o : Obj} {p : ByteArray × Nat} {gg cap : Nat} (h : Rl U wr d s L gL i at_ 0 v6 x V C vn)
    (hown : w2.ownsRow d 39 2 (.slice (some ⟨gg, 0, none⟩) (x.1.length + 1) cap) (x.1.length + 1) (valsN x.1 ++ valN p)) (hgrow : (wr.alloc o).drew.grownBy w2 vn.ownBlock) (hat : vn.ownBlock = some gg ∨ gg = wr.heap.size + 1) (hd : d ≤ wr.heap.size)
    (hst : st s (i + 1) = some ((L.drop (i + 1)).flatten, (x.1 ++ [p], x.2))) :
    w2.cell? ⟨d, 0, none⟩ = some vn ∧ w2.frozen? ⟨d, 0, none⟩ = false ∧ Hid (d ≤ (w2.setCell ⟨d, 0, none⟩ (.slice (some ⟨gg, 0, none⟩) (x.1.length + 1) cap)).heap.size ∧ ∃ x' V' C' vn', Rl U (w2.setCell ⟨d, 0, none⟩ (.slice (some ⟨gg, 0, none⟩) (x.1.length + 1) cap)) d s L gL (i + 1) at_ 0 v6 x' V' C' vn') := by
  obtain ⟨h1, h2, h3⟩ := h.dp.node h.nm hown hgrow hat hd
  have hl := h.len
  refine ⟨h1, h2, hid ⟨by have := h3.out.2.2.1.size; omega, (x.1 ++ [p], x.2), V, C, _, ⟨hl, ?_, hst, h3.out.1, h3.out.2.1, fun h0 => (h.ws h0).k9 h3.out.2.2.2, h.below.trans h3.out.2.2.1⟩⟩⟩
  have ha := h.at_
  rw [if_pos hl] at ha
  rw [if_pos hl]
  exact ha

/-- One named flow more. -/
theorem rl_flow {U wr w2 : World} {d : Nat} {s : List UInt8} {L : List (List UInt8)} {gL i at_ m : Nat} {v6 v' : Value} {x : Dft} {V C : Nat → Nat} {vn : Value} {o : Obj} {p : ByteArray × ByteArray} {g c : Nat} (h : Rl U wr d s L gL i at_ m v6 x V C vn)
    (hw : Ws wr g [flowWd.data.toList, p.1.data.toList, p.2.data.toList])
    (hown : w2.ownsRow d 62 1 v' (m + 1) (((List.range x.2.length).map fun i => Value.slice (some ⟨V i, 0, none⟩) 3 (C i)) ++ [.slice (some ⟨g, 0, none⟩) 3 c])) (hgrow : (wr.alloc o).grownBy w2 v6.ownBlock) (hd : d ≤ wr.heap.size)
    (hst : st s (i + 1) = some ((L.drop (i + 1)).flatten, (x.1, x.2 ++ [p]))) (hs : s.length ≤ 4096) :
    (∃ a e, v' = .slice a (m + 1) e) ∧ Hid (m + 1 ≤ 4096 ∧ d ≤ w2.heap.size ∧ ∃ x' V' C' vn', Rl U w2 d s L gL (i + 1) (if m = 0 then i else at_) (m + 1) v' x' V' C' vn') := by
  have hl := h.len
  subst hl
  obtain ⟨h1, h2⟩ := Nm.more h.nm h.dp hw hown hgrow hd
  have hsm := (st_small hst hs).2.1
  refine ⟨h1, hid ⟨by simpa using hsm, by have := h2.out.2.2.1.size; omega, (x.1, x.2 ++ [p]), _, _, vn, ⟨by simp, ?_, hst, h2.out.2.1, h2.out.1, fun h0 => (h.ws h0).k9 h2.out.2.2.2, h.below.trans h2.out.2.2.1⟩⟩⟩
  have hc := st_count hst
  have ha := h.at_
  simp at hc
  by_cases e : x.2.length = 0
  · simp [e]; omega
  · simp [e] at ha ⊢; exact ha

/-- A flow in the making. -/
def FB (w : World) (F : Nat) (fr to : Int) : Prop := w.heap[F]? = some (.cells #[.int .i64 fr, .int .i64 to] 42 (0, 0))

theorem FB.lt {w : World} {F : Nat} {fr to : Int} (h : FB w F fr to) : F < w.heap.size := (Array.getElem?_eq_some_iff.1 h).1

theorem FB.cells {w : World} {F : Nat} {fr to : Int} (h : FB w F fr to) : w.cell? ⟨F, 0, none⟩ = some (.int .i64 fr) ∧ w.cell? ⟨F, 1, none⟩ = some (.int .i64 to) ∧ w.frozen? ⟨F, 0, none⟩ = false ∧ w.frozen? ⟨F, 1, none⟩ = false := by
  unfold FB at h
  exact ⟨cell_of_cells h rfl, cell_of_cells h rfl, by simp [World.frozen?, h], by simp [World.frozen?, h]⟩

theorem FB.set0 {w : World} {F : Nat} {fr to : Int} (h : FB w F fr to) (z : Int) : FB (w.setCell ⟨F, 0, none⟩ (.int .i64 z)) F z to := by
  unfold FB at *
  rw [blk_setCell_self h]
  rfl

theorem FB.set1 {w : World} {F : Nat} {fr to : Int} (h : FB w F fr to) (z : Int) : FB (w.setCell ⟨F, 1, none⟩ (.int .i64 z)) F fr z := by
  unfold FB at *
  rw [blk_setCell_self h]
  rfl

/-- The least place from q on that has the name s. -/
def FdTo (N : Nat) (M : Nat → ByteArray) (s : ByteArray) (q : Nat) (f : Int) : Prop :=
  (f = -1 ∧ ∀ j, q ≤ j → j < N → M j ≠ s) ∨ ∃ k : Nat, f = k ∧ k < N ∧ M k = s ∧ ∀ j, q ≤ j → j < k → M j ≠ s

theorem FdTo.start {N : Nat} {M : Nat → ByteArray} {s : ByteArray} : FdTo N M s N (-1) := Or.inl ⟨rfl, fun j h1 h2 => by omega⟩

theorem FdTo.hit {N q : Nat} {M : Nat → ByteArray} {s : ByteArray} (hq : q < N) (h : M q = s) : FdTo N M s q (q : Int) := Or.inr ⟨q, rfl, hq, h, fun j h1 h2 => by omega⟩

theorem FdTo.miss {N q : Nat} {M : Nat → ByteArray} {s : ByteArray} {f : Int} (h : FdTo N M s (q + 1) f) (hq : M q ≠ s) : FdTo N M s q f := by
  rcases h with ⟨h0, h⟩ | ⟨k, h0, h1, h2, h⟩
  · refine Or.inl ⟨h0, fun j h1 h2 => ?_⟩
    by_cases e : j = q
    · subst e; exact hq
    · exact h j (by omega) h2
  · refine Or.inr ⟨k, h0, h1, h2, fun j h3 h4 => ?_⟩
    by_cases e : j = q
    · subst e; exact hq
    · exact h j (by omega) h4

theorem FdTo.done {N : Nat} {M : Nat → ByteArray} {s : ByteArray} {f : Int} (h : FdTo N M s 0 f) : f = fnd N M s := by
  rcases h with ⟨h0, h⟩ | ⟨k, h0, h1, h2, h⟩
  · rw [h0, fnd_none (fun j hj => toList_ne (h j (Nat.zero_le _) hj))]
  · rw [h0, fnd_hit h1 (toList_inj.2 h2) (fun j hj => toList_ne (h j (Nat.zero_le _) hj))]

theorem FdTo.range {N q : Nat} {M : Nat → ByteArray} {s : ByteArray} {f : Int} (h : FdTo N M s q f) : -1 ≤ f ∧ f < N := by
  rcases h with ⟨h0, _⟩ | ⟨k, h0, h1, _⟩
  · omega
  · omega

theorem toList_no {a b : ByteArray} (h : (a.toList == b.toList) = false) : a ≠ b := fun e => by
  rw [toList_inj.2 e] at h
  cases h

/-- What the flows' loop keeps. -/
structure Fl (U wr : World) (d : Nat) (x : Dft) (v6 : Value) (V C : Nat → Nat) (vn vf : Value) (k : Nat) : Prop where
  dp : Dp wr d d x.1 (jA x) (jB x) k vn vf
  nm : Nm wr d v6 x.2 V C
  below : Below d U wr
  sz : d ≤ wr.heap.size
  all : ∀ j, j < k → jA x j ≠ -1 ∧ jB x j ≠ -1

theorem Fl.later {U wr u : World} {d : Nat} {x : Dft} {v6 : Value} {V C : Nat → Nat} {vn vf : Value} {k : Nat} (h : Fl U wr d x v6 V C vn vf k) (hb : Below wr.heap.size wr u) : Fl U u d x v6 V C vn vf k :=
  ⟨h.dp.later hb, h.nm.later hb, h.below.trans (hb.mono h.sz), Nat.le_trans h.sz hb.size, h.all⟩

theorem nm_cells {w : World} {B : Nat} {a : Option Addr} {m c : Nat} {fs : List (ByteArray × ByteArray)} {V C : Nat → Nat} (h : Nm w B (.slice a m c) fs V C) : ∃ g, (0 < fs.length → a = some ⟨g, 0, none⟩) ∧ ∀ j, j < fs.length → w.cell? ⟨g, j, none⟩ = some (.slice (some ⟨V j, 0, none⟩) 3 (C j)) := by
  have ho := h.own
  rcases ho.2 with ⟨_, h0⟩ | ⟨g, cap, cur, h1, _⟩
  · exact ⟨0, fun hh => by omega, fun j hj => by omega⟩
  · cases h1
    refine ⟨g, fun _ => rfl, fun j hj => ?_⟩
    have c1 := ho.cells (g := g) rfl j (.slice (some ⟨V j, 0, none⟩) 3 (C j)) (by simp [hj])
    rw [addr_add] at c1
    simpa using c1

/-- A flow more. -/
theorem Fl.more {U wr w2 : World} {d : Nat} {x : Dft} {v6 : Value} {V C : Nat → Nat} {vn vf v' : Value} {k : Nat} {o : Obj} {fr to : Int} (h : Fl U wr d x v6 V C vn vf k)
    (hown : w2.ownsRow d 42 2 v' (k + 1) (valsF (jA x) (jB x) k ++ [.int .i64 fr, .int .i64 to])) (hgrow : (wr.alloc o).grownBy w2 vf.ownBlock) (hat : v'.ownBlock = vf.ownBlock ∨ v'.ownBlock = some (wr.alloc o).heap.size)
    (hA : fr = jA x k) (hB : to = jB x k) (hJ : jA x k ≠ -1 ∧ jB x k ≠ -1) :
    w2.cell? ⟨d, 1, none⟩ = some vf ∧ w2.frozen? ⟨d, 1, none⟩ = false ∧ (∃ a c, v' = .slice a (k + 1) c) ∧ Hid (Fl U (w2.setCell ⟨d, 1, none⟩ v') d x v6 V C vn v' (k + 1)) := by
  subst hA hB
  have hD := h.dp
  have hd : d < wr.heap.size := (Array.getElem?_eq_some_iff.1 hD.blk).1
  have hg : wr.grownBy w2 vf.ownBlock := (World.grownBy_alloc _ _ _).trans hgrow
  have hdn : vf.ownBlock ≠ some d := fun e => by
    obtain ⟨c, hc⟩ := ownBlock_own2 hD.fls d e
    rw [hD.blk] at hc
    cases hc
  have hb2d : w2.heap[d]? = some (.cells #[vn, vf] 25 (0, 0)) := (hg.block d hd (fun e => hdn e.symm)).trans hD.blk
  have hk : K9 wr w2 := k9_grown hg hD.fls (by decide)
  have hk2 : K9 w2 (w2.setCell ⟨d, 1, none⟩ v') := k9_set hb2d (by decide)
  have hb : Below d wr w2 := (Below.refl d wr).grown hg h.sz (fun b e => (hD.fls.lt b e).1)
  obtain ⟨a, c, hv, _⟩ := owns_form hown
  refine ⟨by simp [World.cell?, hb2d], by simp [World.frozen?, hb2d], ⟨a, c, hv⟩, hid ⟨⟨hD.base, ?_, ?_, ?_⟩, ⟨?_, fun i hi => (h.nm.rows i hi).k9 (hk.trans hk2)⟩, h.below.trans (hb.setCell (Nat.le_refl _) _), ?_, fun j hj => ?_⟩⟩
  · rw [blk_setCell_self hb2d]
    rfl
  · exact owns_set (owns_kept hD.nds hD.fls (by decide) hg) hb2d (by decide)
  · refine ownsRow_setCell_other hown (fun b e => ?_)
    intro eb
    subst eb
    rcases hat with e2 | e2
    · exact hdn (by rw [← e2]; exact e)
    · rw [e2] at e
      simp at e
      omega
  · exact owns_set (owns_kept h.nm.own hD.fls (by decide) hg) hb2d (by decide)
  · have := hb.size
    have := h.sz
    simp
    omega
  · by_cases e : j = k
    · subst e; exact hJ
    · exact h.all j (by omega)

set_option maxRecDepth 20000 in
set_option maxHeartbeats 8000000 in
theorem readProcess_any (s : List UInt8) (w : World) :
    Calls Tryd.prog 10 #[.string (byt s)] w fun e w' => PaIs s e w' ∧ Below w.heap.size w w' := by
  have hsz : (byt s).size = s.length := by show s.toArray.size = _; simp
  obtain ⟨bs, hbs⟩ : ∃ b, b = byt s := ⟨_, rfl⟩
  rw [← hbs] at hsz ⊢
  have HBs : Hid (bs = byt s) := hbs
  clear hbs
  obtain ⟨i39, hi, hz0, hz1, hz2⟩ := info_parts Tryd.info39
  have HI39 : Hid (Tryd.prog.info? 39 = some i39 ∧ i39.zero = some (.agg #[.string ⟨#[]⟩, .int .i64 0]) ∧ i39.size = 2 ∧ i39.bytes = 24) := ⟨hi, hz0, hz1, hz2⟩
  clear hi hz0 hz1 hz2
  obtain ⟨i62, hi, hz0, hz1, hz2⟩ := info_parts Tryd.info62
  have HI62 : Hid (Tryd.prog.info? 62 = some i62 ∧ i62.zero = some (.slice none 0 0) ∧ i62.size = 1 ∧ i62.bytes = 24) := ⟨hi, hz0, hz1, hz2⟩
  clear hi hz0 hz1 hz2
  obtain ⟨i42, hi, hz0, hz1, hz2⟩ := info_parts Tryd.info42
  have HI42 : Hid (Tryd.prog.info? 42 = some i42 ∧ i42.zero = some (.agg #[.int .i64 0, .int .i64 0]) ∧ i42.size = 2 ∧ i42.bytes = 16) := ⟨hi, hz0, hz1, hz2⟩
  clear hi hz0 hz1 hz2
  by_cases hl : 4096 < s.length
  · have HT0 : Hid (Two (w.alloc (.cells #[.slice none 0 0, .slice none 0 0] 25)) w.heap.size none none 0 0 0 0) := Go.Deep.blk_alloc_new _ _
    have HL : Hid (4096 < s.length) := hl
    have hz : (4096 : Int) < s.length := by omega
    clear hl
    go_enter Tryd.func10, Tryd.ntmps10
    go_wp2
    (try simp only [Exit.inBlock, Exit.then])
    refine bodyPost_ret (results_cell_tmp2 rfl _ _ w.heap.size 25 #[.slice none 0 0, .slice none 0 0] (0, 0) _ rfl HT0.out Tryd.underlying25 rfl (by kernel_rfl)) rfl ?_
    exact ⟨Or.inl ⟨HL.out, rfl⟩, box_below w _⟩
  · obtain ⟨U, eU⟩ : ∃ v, v = (w.alloc (.cells #[.slice none 0 0, .slice none 0 0] 25)).alloc (.cells #[.slice none 0 0, .slice none 0 0] 25) := ⟨_, rfl⟩
    have HU : Hid (Below w.heap.size w U ∧ Two U w.heap.size none none 0 0 0 0 ∧ U.heap.size = w.heap.size + 2 ∧ Dp U (w.heap.size + 1) (w.heap.size + 1) [] (fun _ => 0) (fun _ => 0) 0 (.slice none 0 0) (.slice none 0 0)) := by
      subst eU
      have e1 : (w.alloc (.cells #[.slice none 0 0, .slice none 0 0] 25)).heap.size = w.heap.size + 1 := by simp
      refine ⟨(box_below _ _).trans ((box_below _ _).mono (by simp)), ?_, by simp, ⟨Nat.le_refl _, ?_, World.ownsRow_nil _ _ _ _, World.ownsRow_nil _ _ _ _⟩⟩
      · unfold Two
        rw [Go.Deep.blk_alloc_lt _ _ _ (by simp), Go.Deep.blk_alloc_new]
      · rw [← e1, Go.Deep.blk_alloc_new]
    have HUe : Hid ((w.alloc (.cells #[.slice none 0 0, .slice none 0 0] 25)).alloc (.cells #[.slice none 0 0, .slice none 0 0] 25) = U) := eU.symm
    clear eU
    have HLs : Hid (s.length ≤ 4096) := by show _ ≤ _; omega
    have hl' : s.length ≤ 4096 := HLs.out
    have hz : ¬ (4096 : Int) < s.length := by omega
    have C1 : Hid (Calls Tryd.prog 24 #[.string bs] U fun e w' => Below U.heap.size U w' ∧ ∃ L, LnIs s L ∧ L.length ≤ 4097 ∧ ∃ a c, e = .returned (.slice a L.length c) ∧ w'.ownsRow U.heap.size 9 1 (.slice a L.length c) L.length (strs L)) := linesRef_any bs s U (by rw [HBs.out, data_byt]) HLs.out
    go_enter Tryd.func10, Tryd.ntmps10
    go_wp2_with fail
    rw [HUe.out]
    refine C1.out.mono ?_
    rintro e w1 ⟨hb1, L, hL, hL7, a, c, rfl, ho⟩
    obtain ⟨gL, hgL, hws⟩ := ws_opt ho rfl
    have HLn : Hid (LnIs s L) := hL
    have hd1 : w.heap.size + 1 ≤ w1.heap.size := by have := hb1.size; have := HU.out.2.2.1; omega
    have HUs : Hid (U.heap.size = w.heap.size + 2) := HU.out.2.2.1
    have HR0 : Hid (Rl U w1 (w.heap.size + 1) s L gL 0 0 0 (.slice none 0 0) ([], []) (fun _ => 0) (fun _ => 0) (.slice none 0 0)) := by
      refine ⟨rfl, rfl, ?_, HU.out.2.2.2.later hb1, ⟨World.ownsRow_nil _ _ _ _, fun i hi => absurd hi (by simp)⟩, hws, hb1.mono (by have := HU.out.2.2.1; omega)⟩
      rw [List.drop_zero, hL.all]
      rfl
    clear hb1 ho hws hL C1
    go_wp2
    go_loopw [6, 8, 9] (fun v6 v8 v9 wr => ∃ (i at_ m : Nat) (a6 : Option Addr) (c6 : Nat), i ≤ L.length ∧ v9 = .int .i64 i ∧ v8 = .int .i64 at_ ∧ v6 = .slice a6 m c6 ∧ m ≤ 4096 ∧ w.heap.size + 1 ≤ wr.heap.size ∧ Hid (∃ x V C vn, Rl U wr (w.heap.size + 1) s L gL i at_ m (.slice a6 m c6) x V C vn)) (fun _ _ v9 _ => L.length - (intOf v9).toNat)
    case atStart => exact ⟨0, 0, 0, none, 0, Nat.zero_le _, rfl, rfl, rfl, Nat.zero_le _, hd1, hid ⟨_, _, _, _, HR0.out⟩⟩
    case round =>
      obtain ⟨i, at_, m, a6, c6, hi, rfl, rfl, rfl, hm, hdr, HS⟩ := hrel
      obtain ⟨x, V, C, vn, hR⟩ := HS.out
      have HR : Hid (Rl U wr (w.heap.size + 1) s L gL i at_ m (.slice a6 m c6) x V C vn) := hR
      clear HS hR
      by_cases hlt : i < L.length
      · obtain rfl := hgL (by omega)
        have hcell := (HR.out.ws (by omega)).cell hlt
        rw [getD2_lt hlt] at hcell
        have hsm := st_small HR.out.st HLs.out
        have HTw : Hid (Two wr w.heap.size none none 0 0 0 0) := (HR.out.below.block _ (by omega)).trans HU.out.2.1
        have HBw : Hid (Below w.heap.size w wr) := HU.out.1.trans (HR.out.below.mono (by omega))
        have hiz : (i : Int) < L.length := by omega
        have k0 : ∀ z : Cls wr, z.u.cell? ⟨gL, i, none⟩ = some (.string (byt L[i])) := fun z => z.cell hcell
        have _hne := cls_some wr
        rcases HLn.out.each i hlt with ⟨y, hy, hy10⟩ | ⟨hlast, hne, hno⟩
        · obtain ⟨b, hb⟩ : ∃ b, b = byt L[i] := ⟨_, rfl⟩
          rw [← hb] at k0 hcell
          obtain ⟨n, hn⟩ : ∃ n, n = y.length := ⟨_, rfl⟩
          have hbn : b.size = n + 1 := by rw [hb, hy, hn]; show (y ++ [10]).toArray.size = _; simp
          have hix : ∀ u, (Instr.index 9 (.string b) (.int .i64 n)).run Tryd.prog u = .ok (.int .u8 10) u := fun u => by
            have hnb : n < b.size := by omega
            refine idx_str b n 10 hnb ?_ u
            have : b[n] = 10 := by
              subst hb hn
              show (byt L[i]).data[y.length] = 10
              simp [byt, hy]
            rw [this]; rfl
          have hx : b.extract 0 n = byt y := by
            rw [dat_part, hb, data_byt, hy, hn]
            simp
          have hn4 : y.length ≤ 4096 := by
            have h1 : L[i].length ≤ s.length := by
              rw [← HLn.out.all]
              exact (List.sublist_flatten_of_mem (List.getElem_mem hlt)).length_le
            rw [hy] at h1
            simp at h1
            have := HLs.out
            omega
          obtain ⟨by_, hby⟩ : ∃ z, z = byt y := ⟨_, rfl⟩
          obtain ⟨W, hW⟩ : ∃ W, W = wds y := ⟨_, rfl⟩
          have HST : Hid (st s (i + 1) = (rdL x y).map fun d => ((L.drop (i + 1)).flatten, d)) := line_next hlt HR.out.st hy hy10
          have HERR : Hid (st s (i + 1) = none → ∀ u, PaIs s (noProc ((i : Int) + 1) 3) u) := fun hh u => by
            refine Or.inr ⟨HLs.out, Or.inl ⟨i, (L.drop i).flatten, x, HR.out.st, ?_, hh, by simp⟩⟩
            rw [List.drop_eq_getElem_cons hlt, List.flatten_cons, hy]
            simp
          obtain ⟨wl, hwl⟩ : ∃ n, n = W.length := ⟨_, rfl⟩
          have HY4 : Hid (y.length ≤ 4096) := hn4
          have HWl : Hid (wl = W.length) := hwl
          have CC : Hid (∀ v u, Below v.heap.size v u → Calls Tryd.prog 25 #[.string by_] u fun e w' => Below v.heap.size v w' ∧ ∃ g c, e = .returned (.slice (some ⟨g, 0, none⟩) wl c) ∧ Ws w' g W ∧ v.heap.size ≤ g) := fun v u hu => by rw [hwl]; exact cutWs by_ y (by rw [hby, data_byt]) hn4 hu W hW
          have HWy : Hid (W = wds y) := hW
          have hWl : wl ≤ 4097 := by have := wds_len y; rw [hwl, hW]; omega
          have hW0 : 0 < wl := by rw [hwl, hW]; exact List.length_pos_iff.2 (wds_ne y)
          rw [← hby] at hx
          have hn4' : n ≤ 4096 := by omega
          have hwr : IntKind.i64.wrap (n : Int) = n := by rw [IntKind.wrap_i64]; omega
          have hnz : (n : Int) ≤ (n : Int) + 1 := by omega
          have HLi : Hid (L[i] = y ++ [10] ∧ 10 ∉ y) := ⟨hy, hy10⟩
          have HBy : Hid (by_ = byt y) := hby
          have hW0z : (0 : Int) < wl := by omega
          clear hb hy hy10 hn hby hW hwl
          go_wp2
          refine wp_region_cls (by kernel_rfl) (by kernel_rfl) ?_
          repeat (go_big_quiet_step (fail))
          refine wpQuiet_nil ?_
          rintro _ ⟨z, rfl⟩
          have hcz := k0 z
          have HR1 : Hid (Rl U z.u (w.heap.size + 1) s L gL i at_ m (.slice a6 m c6) x V C vn) := HR.out.later z.h hdr
          have hdz : w.heap.size + 1 ≤ z.u.heap.size := by have := z.h.size; omega
          generalize z.u = w2 at *
          clear k0 hcell HR HTw HBw _hne
          go_wp2
          go_region_held3 (fun w' => w'.cell? ⟨gL, i, none⟩ = some (.string b)) (first | go_keep)
            (first | (go_at_call 25; refine (CC.out w2 _ ?_).mono ?_; (exact below_drew_iff.2 (Below.refl _ _)); rintro e w3 ⟨hb3, g, cg, rfl, hws3, hg3⟩; have hcz3 : w3.cell? ⟨gL, i, none⟩ = some (.string b) := (hb3.cell (p := ⟨gL, i, none⟩) (World.block_lt_of_cell? _ _ hcz)).trans hcz))
          have HR2 : Hid (Rl U w3 (w.heap.size + 1) s L gL i at_ m (.slice a6 m c6) x V C vn) := HR1.out.later hb3 hdz
          have HW3 : Hid (Ws w3 g W ∧ w.heap.size + 1 ≤ g) := ⟨hws3, by omega⟩
          have hd3 : w.heap.size + 1 ≤ w3.heap.size := by have := hb3.size; omega
          clear hb3 hws3 hg3 hcz hcz3 HR1 CC hix hx hdz hnz hwr
          go_wp2
          obtain ⟨a, r, har⟩ : ∃ a r, W.map byt = a :: r := by
            cases hh : W.map byt with
            | nil => have hz := HWl.out; rw [List.map_eq_nil_iff] at hh; rw [hh] at hz; simp at hz; omega
            | cons a r => exact ⟨a, r, rfl⟩
          have hrl : r.length + 1 = wl := by rw [HWl.out, ← List.length_map (f := byt), har]; rfl
          have HWs3 : Hid (Ws w3 g ((a :: r).map (·.data.toList))) := by rw [← har]; exact ws_map HW3.out.1
          have HSz : Hid (∀ z ∈ r, z.size ≤ 9223372036854775807) := fun z hz => by
            have h1 : z ∈ W.map byt := by rw [har]; exact List.mem_cons_of_mem _ hz
            obtain ⟨z', hz', rfl⟩ := List.mem_map.1 h1
            rw [HWy.out] at hz'
            have := wds_mem_len z' hz'
            show z'.toArray.size ≤ _
            simp
            have := HY4.out
            omega
          have HST4 : Hid (st s (i + 1) = (rdW x (a :: r)).map fun d => ((L.drop (i + 1)).flatten, d)) := by
            show _ = _
            rw [HST.out, rdL, ← har, HWy.out]
          have hc0 : w3.cell? ⟨g, 0, none⟩ = some (.string a) := ws_at HWs3.out 0 a rfl
          clear har HWl HST
          have k0 : ∀ z : Cls w3, z.u.cell? ⟨g, 0, none⟩ = some (.string a) := fun z => z.cell hc0
          go_loopw [12, 13] (fun v12 v13 wr => ∃ (κ k : Nat), κ ≤ 7 ∧ 1 ≤ k ∧ k ≤ 8 ∧ v12 = .int .i64 κ ∧ v13 = .int .i64 k ∧ Hid (KdTo a k κ) ∧ Hid (Below w3.heap.size w3 wr)) (fun _ v13 _ => 8 - (intOf v13).toNat)
          case atStart => exact ⟨0, 1, by omega, by omega, by omega, rfl, rfl, hid (Or.inl ⟨rfl, fun j h1 h2 => by omega⟩), Below.refl _ _⟩
          case round =>
            obtain ⟨κ, k, hκ7, hk1, hk8, rfl, rfl, HK, HBr⟩ := hrel
            obtain ⟨w4, ew4⟩ : ∃ x, x = wr := ⟨_, rfl⟩
            rw [← ew4] at HBr ⊢
            clear ew4
            by_cases hlt7 : k ≤ 7
            · have hkz : (k : Int) ≤ 7 := by omega
              have CK : Hid (∀ u, Below w4.heap.size w4 u → Calls Tryd.prog 19 #[.int .i64 k] u fun e w' => e = .returned (.string (kw k)) ∧ Below w4.heap.size w4 w') := fun u hu => (kindWord_any k u hlt7).mono fun e w' ⟨h1, h2⟩ => ⟨h1, hu.trans (h2.mono hu.size)⟩
              have k1 : ∀ z : Cls w4, z.u.cell? ⟨g, 0, none⟩ = some (.string a) := fun z => z.cell ((HBr.out.cell (p := ⟨g, 0, none⟩) (World.block_lt_of_cell? _ _ hc0)).trans hc0)
              have _hne := cls_some w4
              clear k0
              by_cases he : kw k = a
              · have hb : (a.toList == (kw k).toList) = true := toList_inj.2 he.symm
                have HK2 : Hid (KdTo a (k + 1) k) := KdTo.hit hk1 hlt7 he
                clear he
                go_wp2
                refine wp_region_cls (by kernel_rfl) (by kernel_rfl) ?_
                repeat (go_big_quiet_step (exact Cls.calls (CK.out _ (Cls.h _))))
                refine wpQuiet_nil ?_
                rintro _ ⟨z, rfl⟩
                have HBz : Hid (Below w3.heap.size w3 z.u) := HBr.out.trans (z.h.mono HBr.out.size)
                generalize z.u = w5 at *
                clear k1 CK
                go_wp2
                go_roundw
                case rel => exact ⟨k, k + 1, hlt7, by omega, by omega, rfl, by go_num, HK2, HBz⟩
                case measure => simp [intOf]; omega
              · have hb : (a.toList == (kw k).toList) = false := toList_ne (Ne.symm he)
                have HK2 : Hid (KdTo a (k + 1) κ) := HK.out.miss he
                clear he
                go_wp2
                refine wp_region_cls (by kernel_rfl) (by kernel_rfl) ?_
                repeat (go_big_quiet_step (exact Cls.calls (CK.out _ (Cls.h _))))
                refine wpQuiet_nil ?_
                rintro _ ⟨z, rfl⟩
                have HBz : Hid (Below w3.heap.size w3 z.u) := HBr.out.trans (z.h.mono HBr.out.size)
                generalize z.u = w5 at *
                clear k1 CK
                go_wp2
                go_roundw
                case rel => exact ⟨κ, k + 1, hκ7, by omega, by omega, rfl, by go_num, HK2, HBz⟩
                case measure => simp [intOf]; omega
            · obtain rfl : k = 8 := by omega
              have HKa : Hid (κ = kOf a) := HK.out.done
              have HR3 : Hid (Rl U w4 (w.heap.size + 1) s L gL i at_ m (.slice a6 m c6) x V C vn) := HR2.out.later HBr.out hd3
              have hd4 : w.heap.size + 1 ≤ w4.heap.size := by have := HBr.out.size; omega
              have HWs4 : Hid (Ws w4 g ((a :: r).map (·.data.toList))) := HWs3.out.k9 (k9_below HBr.out)
              have HC4 : Hid (∀ j z, (a :: r)[j]? = some z → w4.cell? ⟨g, j, none⟩ = some (.string z)) := fun j z h => ws_at HWs4.out j z h
              have hc4 : w4.cell? ⟨g, 0, none⟩ = some (.string a) := HC4.out 0 a rfl
              have HTw : Hid (Two w4 w.heap.size none none 0 0 0 0) := (HR3.out.below.block _ (by omega)).trans HU.out.2.1
              have HBw : Hid (Below w.heap.size w w4) := HU.out.1.trans (HR3.out.below.mono (by omega))
              have HRO : Hid (w4.ownsRow (w.heap.size + 1) 62 1 (.slice a6 m c6) m ((List.range x.2.length).map fun i => .slice (some ⟨V i, 0, none⟩) 3 (C i))) := by
                have := HR3.out.nm.own
                rw [HR3.out.len] at this
                rw [HR3.out.len]
                exact this
              clear HK HBr HR2 HWs3 hc0 k0 hd3 HW3 hlt7 hk1 hk8
              by_cases haf : a = flowWd
              · skip
                have hq : (a.toList == [102, 108, 111, 119]) = true := by rw [haf, flow_toList]; rfl
                by_cases h3 : wl = 3
                · subst h3
                  obtain ⟨b1, c1, hr⟩ : ∃ b1 c1, r = [b1, c1] := by
                    match r, hrl with
                    | [b1, c1], _ => exact ⟨b1, c1, rfl⟩
                  have hc1 : w4.cell? ⟨g, 1, none⟩ = some (.string b1) := HC4.out 1 b1 (by rw [hr]; rfl)
                  have hc2 : w4.cell? ⟨g, 2, none⟩ = some (.string c1) := HC4.out 2 c1 (by rw [hr]; rfl)
                  have CN1 : Hid (∀ u, Calls Tryd.prog 14 #[.string b1] u fun e w' => e = .returned (.bool (nameOk b1)) ∧ w' = u) := fun u => named_any b1 u (HSz.out b1 (by rw [hr]; simp))
                  have CN2 : Hid (∀ u, Calls Tryd.prog 14 #[.string c1] u fun e w' => e = .returned (.bool (nameOk c1)) ∧ w' = u) := fun u => named_any c1 u (HSz.out c1 (by rw [hr]; simp))
                  cases h1 : nameOk b1
                  · rw [h1] at CN1
                    have HE : Hid (∀ u, PaIs s (noProc ((i : Int) + 1) 3) u) := HERR.out (by rw [HST4.out, rdW_flow haf (fun ⟨b, c, e, hh⟩ => by rw [hr] at e; cases e; rw [h1] at hh; exact Bool.false_ne_true hh.1)]; rfl)
                    clear CN2 h1 hr haf
                    rcases Nat.eq_zero_or_pos m with hm0 | hm0
                    · subst hm0
                      go_wp2_with fail
                      refine (CN1.out _).mono ?_
                      rintro e w5 ⟨rfl, e5⟩
                      rw [e5]
                      clear e5
                      go_wp2_with (at_builtin; refine wpList_append_own_at _ rfl _ _ 61 rfl (w.heap.size + 1) 62 i62 (.slice none 0 0) 1 24 Tryd.underlying61 HI62.out.1 HI62.out.2.1 HI62.out.2.2.1 HI62.out.2.2.2 rfl (by decide) _ _ _ rfl (HRO.out.alloc _) ⟨w4.heap.size, 0, none⟩ 1 1 [.slice (some ⟨g, 0, none⟩) 3 cg] rfl rfl (cell_one_new _ _ _) (by intro u hu; rw [List.mem_singleton] at hu; rw [hu]; rfl) (by unfold maxLen; omega) (by omega) (by simp; omega) ?_; intro v' w6 hown hgrow _ _; obtain ⟨⟨a7, c7, rfl⟩, ⟨hr0, hr1, hf0, hf1⟩, HH⟩ := nm_grow HR3.out hown hgrow hd4 HTw.out (Nat.lt_succ_self _) HBw.out; clear hown hgrow)
                      have HTT : Hid (Two w6 w.heap.size none none 0 0 0 0) := HH.out.1
                      have HBB : Hid (Below w.heap.size w w6) := HH.out.2
                      (try simp only [Exit.inBlock, Exit.then])
                      refine bodyPost_ret (results_cell_tmp2 rfl _ _ w.heap.size 25 #[.slice none 0 0, .slice none 0 0] (0, 0) _ rfl (two_set HTT.out) Tryd.underlying25 rfl (by kernel_rfl)) rfl ?_
                      exact ⟨HE.out _, ((HBB.out.setCell (Nat.le_refl _) _).setCell (Nat.le_refl _) _)⟩
                    · have q1 : ((m : Int) + 1 == 1) = false := by rw [beq_eq_false_iff_ne]; omega
                      have q2 : ((m : Int) == 0) = false := by rw [beq_eq_false_iff_ne]; omega
                      go_wp2_with fail
                      refine (CN1.out _).mono ?_
                      rintro e w5 ⟨rfl, e5⟩
                      rw [e5]
                      clear e5
                      go_wp2_with (at_builtin; refine wpList_append_own_at _ rfl _ _ 61 rfl (w.heap.size + 1) 62 i62 (.slice none 0 0) 1 24 Tryd.underlying61 HI62.out.1 HI62.out.2.1 HI62.out.2.2.1 HI62.out.2.2.2 rfl (by decide) _ _ _ rfl (HRO.out.alloc _) ⟨w4.heap.size, 0, none⟩ 1 1 [.slice (some ⟨g, 0, none⟩) 3 cg] rfl rfl (cell_one_new _ _ _) (by intro u hu; rw [List.mem_singleton] at hu; rw [hu]; rfl) (by unfold maxLen; omega) (by omega) (by simp; omega) ?_; intro v' w6 hown hgrow _ _; obtain ⟨⟨a7, c7, rfl⟩, ⟨hr0, hr1, hf0, hf1⟩, HH⟩ := nm_grow HR3.out hown hgrow hd4 HTw.out (Nat.lt_succ_self _) HBw.out; clear hown hgrow)
                      have HTT : Hid (Two w6 w.heap.size none none 0 0 0 0) := HH.out.1
                      have HBB : Hid (Below w.heap.size w w6) := HH.out.2
                      (try simp only [Exit.inBlock, Exit.then])
                      refine bodyPost_ret (results_cell_tmp2 rfl _ _ w.heap.size 25 #[.slice none 0 0, .slice none 0 0] (0, 0) _ rfl (two_set HTT.out) Tryd.underlying25 rfl (by kernel_rfl)) rfl ?_
                      exact ⟨HE.out _, ((HBB.out.setCell (Nat.le_refl _) _).setCell (Nat.le_refl _) _)⟩
                  · rw [h1] at CN1
                    cases h2 : nameOk c1
                    · rw [h2] at CN2
                      have HE : Hid (∀ u, PaIs s (noProc ((i : Int) + 1) 3) u) := HERR.out (by rw [HST4.out, rdW_flow haf (fun ⟨b, c, e, hh⟩ => by rw [hr] at e; cases e; rw [h2] at hh; exact Bool.false_ne_true hh.2)]; rfl)
                      clear h1 h2 hr haf
                      rcases Nat.eq_zero_or_pos m with hm0 | hm0
                      · subst hm0
                        go_wp2_with fail
                        refine (CN1.out _).mono ?_
                        rintro e w5 ⟨rfl, e5⟩
                        rw [e5]
                        clear e5
                        go_wp2_with fail
                        refine (CN2.out _).mono ?_
                        rintro e w5 ⟨rfl, e5⟩
                        rw [e5]
                        clear e5
                        go_wp2_with (at_builtin; refine wpList_append_own_at _ rfl _ _ 61 rfl (w.heap.size + 1) 62 i62 (.slice none 0 0) 1 24 Tryd.underlying61 HI62.out.1 HI62.out.2.1 HI62.out.2.2.1 HI62.out.2.2.2 rfl (by decide) _ _ _ rfl (HRO.out.alloc _) ⟨w4.heap.size, 0, none⟩ 1 1 [.slice (some ⟨g, 0, none⟩) 3 cg] rfl rfl (cell_one_new _ _ _) (by intro u hu; rw [List.mem_singleton] at hu; rw [hu]; rfl) (by unfold maxLen; omega) (by omega) (by simp; omega) ?_; intro v' w6 hown hgrow _ _; obtain ⟨⟨a7, c7, rfl⟩, ⟨hr0, hr1, hf0, hf1⟩, HH⟩ := nm_grow HR3.out hown hgrow hd4 HTw.out (Nat.lt_succ_self _) HBw.out; clear hown hgrow)
                        have HTT : Hid (Two w6 w.heap.size none none 0 0 0 0) := HH.out.1
                        have HBB : Hid (Below w.heap.size w w6) := HH.out.2
                        (try simp only [Exit.inBlock, Exit.then])
                        refine bodyPost_ret (results_cell_tmp2 rfl _ _ w.heap.size 25 #[.slice none 0 0, .slice none 0 0] (0, 0) _ rfl (two_set HTT.out) Tryd.underlying25 rfl (by kernel_rfl)) rfl ?_
                        exact ⟨HE.out _, ((HBB.out.setCell (Nat.le_refl _) _).setCell (Nat.le_refl _) _)⟩
                      · have q1 : ((m : Int) + 1 == 1) = false := by rw [beq_eq_false_iff_ne]; omega
                        have q2 : ((m : Int) == 0) = false := by rw [beq_eq_false_iff_ne]; omega
                        go_wp2_with fail
                        refine (CN1.out _).mono ?_
                        rintro e w5 ⟨rfl, e5⟩
                        rw [e5]
                        clear e5
                        go_wp2_with fail
                        refine (CN2.out _).mono ?_
                        rintro e w5 ⟨rfl, e5⟩
                        rw [e5]
                        clear e5
                        go_wp2_with (at_builtin; refine wpList_append_own_at _ rfl _ _ 61 rfl (w.heap.size + 1) 62 i62 (.slice none 0 0) 1 24 Tryd.underlying61 HI62.out.1 HI62.out.2.1 HI62.out.2.2.1 HI62.out.2.2.2 rfl (by decide) _ _ _ rfl (HRO.out.alloc _) ⟨w4.heap.size, 0, none⟩ 1 1 [.slice (some ⟨g, 0, none⟩) 3 cg] rfl rfl (cell_one_new _ _ _) (by intro u hu; rw [List.mem_singleton] at hu; rw [hu]; rfl) (by unfold maxLen; omega) (by omega) (by simp; omega) ?_; intro v' w6 hown hgrow _ _; obtain ⟨⟨a7, c7, rfl⟩, ⟨hr0, hr1, hf0, hf1⟩, HH⟩ := nm_grow HR3.out hown hgrow hd4 HTw.out (Nat.lt_succ_self _) HBw.out; clear hown hgrow)
                        have HTT : Hid (Two w6 w.heap.size none none 0 0 0 0) := HH.out.1
                        have HBB : Hid (Below w.heap.size w w6) := HH.out.2
                        (try simp only [Exit.inBlock, Exit.then])
                        refine bodyPost_ret (results_cell_tmp2 rfl _ _ w.heap.size 25 #[.slice none 0 0, .slice none 0 0] (0, 0) _ rfl (two_set HTT.out) Tryd.underlying25 rfl (by kernel_rfl)) rfl ?_
                        exact ⟨HE.out _, ((HBB.out.setCell (Nat.le_refl _) _).setCell (Nat.le_refl _) _)⟩
                    · rw [h2] at CN2
                      have HN4 : Hid (st s (i + 1) = some ((L.drop (i + 1)).flatten, (x.1, x.2 ++ [(b1, c1)]))) := by
                        show _ = _
                        rw [HST4.out, hr]
                        simp only [rdW]
                        rw [if_pos ⟨haf, h1, h2⟩]
                        rfl
                      have HW4 : Hid (Ws w4 g [flowWd.data.toList, b1.data.toList, c1.data.toList]) := by
                        have hh := HWs4.out
                        rw [hr, haf] at hh
                        exact ws_back hh
                      clear h1 h2 hr haf
                      rcases Nat.eq_zero_or_pos m with hm0 | hm0
                      · subst hm0
                        go_wp2_with fail
                        refine (CN1.out _).mono ?_
                        rintro e w5 ⟨rfl, e5⟩
                        rw [e5]
                        clear e5
                        go_wp2_with fail
                        refine (CN2.out _).mono ?_
                        rintro e w5 ⟨rfl, e5⟩
                        rw [e5]
                        clear e5
                        go_wp2_with (at_builtin; refine wpList_append_own_at _ rfl _ _ 61 rfl (w.heap.size + 1) 62 i62 (.slice none 0 0) 1 24 Tryd.underlying61 HI62.out.1 HI62.out.2.1 HI62.out.2.2.1 HI62.out.2.2.2 rfl (by decide) _ _ _ rfl (HRO.out.alloc _) ⟨w4.heap.size, 0, none⟩ 1 1 [.slice (some ⟨g, 0, none⟩) 3 cg] rfl rfl (cell_one_new _ _ _) (by intro u hu; rw [List.mem_singleton] at hu; rw [hu]; rfl) (by unfold maxLen; omega) (by omega) (by simp; omega) ?_; intro v' w6 hown hgrow _ _; obtain ⟨⟨a7, c7, rfl⟩, HH⟩ := rl_flow HR3.out (p := (b1, c1)) HW4.out hown hgrow hd4 HN4.out HLs.out; clear hown hgrow)
                        go_roundw
                        case rel =>
                          have HH' := HH.out
                          rw [if_pos rfl] at HH'
                          exact ⟨i + 1, i, _, a7, c7, by omega, by go_num, rfl, rfl, HH'.1, HH'.2.1, hid HH'.2.2⟩
                        case measure => simp [intOf]; omega
                      · have q1 : ((m : Int) + 1 == 1) = false := by rw [beq_eq_false_iff_ne]; omega
                        have q2 : ((m : Int) == 0) = false := by rw [beq_eq_false_iff_ne]; omega
                        go_wp2_with fail
                        refine (CN1.out _).mono ?_
                        rintro e w5 ⟨rfl, e5⟩
                        rw [e5]
                        clear e5
                        go_wp2_with fail
                        refine (CN2.out _).mono ?_
                        rintro e w5 ⟨rfl, e5⟩
                        rw [e5]
                        clear e5
                        go_wp2_with (at_builtin; refine wpList_append_own_at _ rfl _ _ 61 rfl (w.heap.size + 1) 62 i62 (.slice none 0 0) 1 24 Tryd.underlying61 HI62.out.1 HI62.out.2.1 HI62.out.2.2.1 HI62.out.2.2.2 rfl (by decide) _ _ _ rfl (HRO.out.alloc _) ⟨w4.heap.size, 0, none⟩ 1 1 [.slice (some ⟨g, 0, none⟩) 3 cg] rfl rfl (cell_one_new _ _ _) (by intro u hu; rw [List.mem_singleton] at hu; rw [hu]; rfl) (by unfold maxLen; omega) (by omega) (by simp; omega) ?_; intro v' w6 hown hgrow _ _; obtain ⟨⟨a7, c7, rfl⟩, HH⟩ := rl_flow HR3.out (p := (b1, c1)) HW4.out hown hgrow hd4 HN4.out HLs.out; clear hown hgrow)
                        go_roundw
                        case rel =>
                          have HH' := HH.out
                          rw [if_neg (by omega)] at HH'
                          exact ⟨i + 1, at_, _, a7, c7, by omega, by go_num, rfl, rfl, HH'.1, HH'.2.1, hid HH'.2.2⟩
                        case measure => simp [intOf]; omega
                · have q3 : ((wl : Int) == 3) = false := by rw [beq_eq_false_iff_ne]; omega
                  have HE : Hid (∀ u, PaIs s (noProc ((i : Int) + 1) 3) u) := HERR.out (by rw [HST4.out, rdW_flow haf (fun ⟨b, c, e, _⟩ => by rw [e] at hrl; simp at hrl; omega)]; rfl)
                  clear haf
                  rcases Nat.eq_zero_or_pos m with hm0 | hm0
                  · subst hm0
                    go_wp2_with (at_builtin; refine wpList_append_own_at _ rfl _ _ 61 rfl (w.heap.size + 1) 62 i62 (.slice none 0 0) 1 24 Tryd.underlying61 HI62.out.1 HI62.out.2.1 HI62.out.2.2.1 HI62.out.2.2.2 rfl (by decide) _ _ _ rfl (HRO.out.alloc _) ⟨w4.heap.size, 0, none⟩ 1 1 [.slice (some ⟨g, 0, none⟩) wl cg] rfl rfl (cell_one_new _ _ _) (by intro u hu; rw [List.mem_singleton] at hu; rw [hu]; rfl) (by unfold maxLen; omega) (by omega) (by simp; omega) ?_; intro v' w6 hown hgrow _ _; obtain ⟨⟨a7, c7, rfl⟩, ⟨hr0, hr1, hf0, hf1⟩, HH⟩ := nm_grow HR3.out hown hgrow hd4 HTw.out (Nat.lt_succ_self _) HBw.out; clear hown hgrow)
                    have HTT : Hid (Two w6 w.heap.size none none 0 0 0 0) := HH.out.1
                    have HBB : Hid (Below w.heap.size w w6) := HH.out.2
                    (try simp only [Exit.inBlock, Exit.then])
                    refine bodyPost_ret (results_cell_tmp2 rfl _ _ w.heap.size 25 #[.slice none 0 0, .slice none 0 0] (0, 0) _ rfl (two_set HTT.out) Tryd.underlying25 rfl (by kernel_rfl)) rfl ?_
                    exact ⟨HE.out _, ((HBB.out.setCell (Nat.le_refl _) _).setCell (Nat.le_refl _) _)⟩
                  · have q1 : ((m : Int) + 1 == 1) = false := by rw [beq_eq_false_iff_ne]; omega
                    have q2 : ((m : Int) == 0) = false := by rw [beq_eq_false_iff_ne]; omega
                    go_wp2_with (at_builtin; refine wpList_append_own_at _ rfl _ _ 61 rfl (w.heap.size + 1) 62 i62 (.slice none 0 0) 1 24 Tryd.underlying61 HI62.out.1 HI62.out.2.1 HI62.out.2.2.1 HI62.out.2.2.2 rfl (by decide) _ _ _ rfl (HRO.out.alloc _) ⟨w4.heap.size, 0, none⟩ 1 1 [.slice (some ⟨g, 0, none⟩) wl cg] rfl rfl (cell_one_new _ _ _) (by intro u hu; rw [List.mem_singleton] at hu; rw [hu]; rfl) (by unfold maxLen; omega) (by omega) (by simp; omega) ?_; intro v' w6 hown hgrow _ _; obtain ⟨⟨a7, c7, rfl⟩, ⟨hr0, hr1, hf0, hf1⟩, HH⟩ := nm_grow HR3.out hown hgrow hd4 HTw.out (Nat.lt_succ_self _) HBw.out; clear hown hgrow)
                    have HTT : Hid (Two w6 w.heap.size none none 0 0 0 0) := HH.out.1
                    have HBB : Hid (Below w.heap.size w w6) := HH.out.2
                    (try simp only [Exit.inBlock, Exit.then])
                    refine bodyPost_ret (results_cell_tmp2 rfl _ _ w.heap.size 25 #[.slice none 0 0, .slice none 0 0] (0, 0) _ rfl (two_set HTT.out) Tryd.underlying25 rfl (by kernel_rfl)) rfl ?_
                    exact ⟨HE.out _, ((HBB.out.setCell (Nat.le_refl _) _).setCell (Nat.le_refl _) _)⟩
              · skip
                have hq : (a.toList == [102, 108, 111, 119]) = false := by
                  cases e : (a.toList == [102, 108, 111, 119])
                  · rfl
                  · have e' : (a.toList == flowWd.toList) = true := by rw [flow_toList]; exact e
                    exact absurd (toList_inj.1 e') haf
                rcases Nat.eq_zero_or_pos κ with hκ0 | hκ0
                · have HE : Hid (∀ u, PaIs s (noProc ((i : Int) + 1) 3) u) := HERR.out (by rw [HST4.out, rdW_none haf (by rw [← HKa.out]; exact hκ0)]; rfl)
                  subst hκ0
                  clear haf
                  have HTT : Hid (Two w4 w.heap.size none none 0 0 0 0) := HTw.out
                  have HBB : Hid (Below w.heap.size w w4) := HBw.out
                  obtain ⟨hr0, hr1, hf0, hf1⟩ := two_cells0 HTT.out
                  go_wp2
                  (try simp only [Exit.inBlock, Exit.then])
                  refine bodyPost_ret (results_cell_tmp2 rfl _ _ w.heap.size 25 #[.slice none 0 0, .slice none 0 0] (0, 0) _ rfl (two_set HTT.out) Tryd.underlying25 rfl (by kernel_rfl)) rfl ?_
                  exact ⟨HE.out _, ((HBB.out.setCell (Nat.le_refl _) _).setCell (Nat.le_refl _) _)⟩
                · have hκz : (0 : Int) < κ := by omega
                  by_cases h2 : wl = 2
                  · subst h2
                    obtain ⟨b1, hr⟩ : ∃ b1, r = [b1] := by
                      match r, hrl with
                      | [b1], _ => exact ⟨b1, rfl⟩
                    have hc1 : w4.cell? ⟨g, 1, none⟩ = some (.string b1) := HC4.out 1 b1 (by rw [hr]; rfl)
                    have CN1 : Hid (∀ u, Calls Tryd.prog 14 #[.string b1] u fun e w' => e = .returned (.bool (nameOk b1)) ∧ w' = u) := fun u => named_any b1 u (HSz.out b1 (by rw [hr]; simp))
                    cases h1 : nameOk b1
                    · rw [h1] at CN1
                      have HE : Hid (∀ u, PaIs s (noProc ((i : Int) + 1) 3) u) := HERR.out (by rw [HST4.out, rdW_kind haf (fun ⟨b, e, hh⟩ => by rw [hr] at e; cases e; rw [h1] at hh; exact Bool.false_ne_true hh.1)]; rfl)
                      clear h1 hr haf
                      have HTT : Hid (Two w4 w.heap.size none none 0 0 0 0) := HTw.out
                      have HBB : Hid (Below w.heap.size w w4) := HBw.out
                      obtain ⟨hr0, hr1, hf0, hf1⟩ := two_cells0 HTT.out
                      go_wp2_with fail
                      refine (CN1.out _).mono ?_
                      rintro e w5 ⟨rfl, e5⟩
                      rw [e5]
                      clear e5
                      go_wp2
                      (try simp only [Exit.inBlock, Exit.then])
                      refine bodyPost_ret (results_cell_tmp2 rfl _ _ w.heap.size 25 #[.slice none 0 0, .slice none 0 0] (0, 0) _ rfl (two_set HTT.out) Tryd.underlying25 rfl (by kernel_rfl)) rfl ?_
                      exact ⟨HE.out _, ((HBB.out.setCell (Nat.le_refl _) _).setCell (Nat.le_refl _) _)⟩
                    · rw [h1] at CN1
                      rcases Nat.eq_zero_or_pos m with hm0 | hm0
                      · subst hm0
                        have HX1 : Hid (x.1.length ≤ 4096) := hsm.1
                        have HN4 : Hid (st s (i + 1) = some ((L.drop (i + 1)).flatten, (x.1 ++ [(b1, κ)], x.2))) := by
                          show _ = _
                          rw [HST4.out, hr]
                          simp only [rdW]
                          rw [if_pos ⟨List.length_eq_zero_iff.1 HR3.out.len, by rw [← HKa.out]; omega, h1⟩, ← HKa.out]
                          rfl
                        have hcd : w4.cell? ⟨w.heap.size + 1, 0, none⟩ = some vn := cell_of_cells HR3.out.dp.blk rfl
                        have hcd2 : (w4.alloc (.cells #[.string b1, .int .i64 κ] 39)).cell? ⟨w.heap.size + 1, 0, none⟩ = some vn := ((box_below _ _).cell (p := ⟨w.heap.size + 1, 0, none⟩) (World.block_lt_of_cell? _ _ hcd)).trans hcd
                        clear h1 hr haf
                        go_wp2_with fail
                        refine (CN1.out _).mono ?_
                        rintro e w5 ⟨rfl, e5⟩
                        rw [e5]
                        clear e5
                        go_wp2
                        go_region_law
                          (first
                            | (refine step_append_lies _ (by rfl) _ _ _ (by rfl) (w.heap.size + 1) 39 i39 _ 2 24 Tryd.underlying22 HI39.out.1 HI39.out.2.1 HI39.out.2.2.1 HI39.out.2.2.2 rfl (by omega) vn x.1.length (valsN x.1) (by rfl) ((HR3.out.dp.nds.alloc _).drew)
                                ⟨w4.heap.size, 0, none⟩ 1 1 (valN (b1, κ)) (by rfl) (by rfl) (two_cells_drew _ _ _ _) (valN_one _) (by omega) (by have := HX1.out; unfold maxLen; omega) (by have := HX1.out; omega) (by simp; omega) (w4.heap.size + 1) (by simp) ?_; intro gg cap w6 hown hgrow hat hlt6; obtain ⟨d0, d1, H6⟩ := rl_node HR3.out hown hgrow hat hd4 HN4.out))
                        all_goals
                          clear hown hgrow hat
                          go_wp2
                          go_roundw
                          case rel => exact ⟨i + 1, at_, 0, a6, c6, by omega, by go_num, rfl, rfl, Nat.zero_le _, H6.out.1, hid H6.out.2⟩
                          case measure => simp [intOf]; omega
                      · have HE : Hid (∀ u, PaIs s (noProc ((i : Int) + 1) 3) u) := HERR.out (by rw [HST4.out, rdW_kind haf (fun ⟨b, e, hh⟩ => by have := HR3.out.len; rw [hh.2] at this; simp at this; omega)]; rfl)
                        have q2 : ((m : Int) == 0) = false := by rw [beq_eq_false_iff_ne]; omega
                        clear h1 hr haf
                        have HTT : Hid (Two w4 w.heap.size none none 0 0 0 0) := HTw.out
                        have HBB : Hid (Below w.heap.size w w4) := HBw.out
                        obtain ⟨hr0, hr1, hf0, hf1⟩ := two_cells0 HTT.out
                        go_wp2_with fail
                        refine (CN1.out _).mono ?_
                        rintro e w5 ⟨rfl, e5⟩
                        rw [e5]
                        clear e5
                        go_wp2
                        (try simp only [Exit.inBlock, Exit.then])
                        refine bodyPost_ret (results_cell_tmp2 rfl _ _ w.heap.size 25 #[.slice none 0 0, .slice none 0 0] (0, 0) _ rfl (two_set HTT.out) Tryd.underlying25 rfl (by kernel_rfl)) rfl ?_
                        exact ⟨HE.out _, ((HBB.out.setCell (Nat.le_refl _) _).setCell (Nat.le_refl _) _)⟩
                  · have q3 : ((wl : Int) == 2) = false := by rw [beq_eq_false_iff_ne]; omega
                    have HE : Hid (∀ u, PaIs s (noProc ((i : Int) + 1) 3) u) := HERR.out (by rw [HST4.out, rdW_kind haf (fun ⟨b, e, _⟩ => by rw [e] at hrl; simp at hrl; omega)]; rfl)
                    clear haf
                    have HTT : Hid (Two w4 w.heap.size none none 0 0 0 0) := HTw.out
                    have HBB : Hid (Below w.heap.size w w4) := HBw.out
                    obtain ⟨hr0, hr1, hf0, hf1⟩ := two_cells0 HTT.out
                    go_wp2
                    (try simp only [Exit.inBlock, Exit.then])
                    refine bodyPost_ret (results_cell_tmp2 rfl _ _ w.heap.size 25 #[.slice none 0 0, .slice none 0 0] (0, 0) _ rfl (two_set HTT.out) Tryd.underlying25 rfl (by kernel_rfl)) rfl ?_
                    exact ⟨HE.out _, ((HBB.out.setCell (Nat.le_refl _) _).setCell (Nat.le_refl _) _)⟩
        · skip
          obtain ⟨b, hb⟩ : ∃ b, b = byt L[i] := ⟨_, rfl⟩
          rw [← hb] at k0 hcell
          obtain ⟨n, hn⟩ : ∃ n, n = L[i].length - 1 := ⟨_, rfl⟩
          have hpos : 0 < L[i].length := List.length_pos_iff.2 hne
          have hbn : b.size = n + 1 := by rw [hb]; show L[i].toArray.size = _; simp; omega
          have hnb : n < b.size := by omega
          have hn4 : n ≤ 4096 := by
            have h1 : L[i].length ≤ s.length := by
              rw [← HLn.out.all]
              exact (List.sublist_flatten_of_mem (List.getElem_mem hlt)).length_le
            have := HLs.out
            omega
          obtain ⟨cc, hcc⟩ : ∃ z : Nat, z = b[n].toNat := ⟨_, rfl⟩
          have hix : ∀ u, (Instr.index 9 (.string b) (.int .i64 n)).run Tryd.prog u = .ok (.int .u8 (cc : Int)) u := fun u => idx_str b n cc hnb (by rw [hcc]) u
          have hq : ((cc : Int) == 10) = false := by
            rw [beq_eq_false_iff_ne]
            intro h
            have h2 : b[n] = 10 := UInt8.toNat_inj.1 (by rw [← hcc]; exact Int.ofNat.inj h)
            have hn2 : n < L[i].length := by omega
            have h3 : b[n] = L[i][n] := by subst hb; exact dat_get (by rw [data_byt]; exact hn2) _
            exact hno (by rw [← h2, h3]; exact List.getElem_mem _)
          have HE : Hid (∀ u, PaIs s (noProc ((i : Int) + 1) 3) u) := fun u => by
            refine Or.inr ⟨HLs.out, Or.inl ⟨i, (L.drop i).flatten, x, HR.out.st, ?_, line_last hlast HR.out.st hno, by simp⟩⟩
            rw [List.drop_eq_getElem_cons hlt, List.flatten_cons]
            intro hh
            exact hne (List.append_eq_nil_iff.1 hh).1
          clear hb hn hcc hnb hpos hno hne hlast
          go_wp2
          refine wp_region_cls (by kernel_rfl) (by kernel_rfl) ?_
          repeat (go_big_quiet_step (fail))
          refine wpQuiet_nil ?_
          rintro _ ⟨z, rfl⟩
          have HTT : Hid (Two z.u w.heap.size none none 0 0 0 0) := (z.h.block _ (by omega)).trans HTw.out
          have HBB : Hid (Below w.heap.size w z.u) := HBw.out.trans (z.h.mono HBw.out.size)
          generalize z.u = w2 at *
          clear k0 hix
          obtain ⟨hr0, hr1, hf0, hf1⟩ := two_cells0 HTT.out
          go_wp2
          (try simp only [Exit.inBlock, Exit.then])
          refine bodyPost_ret (results_cell_tmp2 rfl _ _ w.heap.size 25 #[.slice none 0 0, .slice none 0 0] (0, 0) _ rfl (two_set HTT.out) Tryd.underlying25 rfl (by kernel_rfl)) rfl ?_
          exact ⟨HE.out _, ((HBB.out.setCell (Nat.le_refl _) _).setCell (Nat.le_refl _) _)⟩
      · skip
        obtain rfl : i = L.length := by omega
        have HSE : Hid (st s L.length = some ([], x)) := by
          have := HR.out.st
          rw [List.drop_length] at this
          exact this
        have hsm := st_small HSE.out HLs.out
        obtain ⟨na, nc, hvn, hnc⟩ := owns_form HR.out.dp.nds
        subst hvn
        have HGd : Hid (∀ j, j < x.1.length → (mM x.1 j).size ≤ maxLen) := fun j hj => by
          have h1 := (st_text HSE.out).1.nds
          have h2 : mM x.1 j = (x.1[j]).1 := by unfold mM; simp [hj]
          rw [h2]
          have := nameOk_size (h1 _ (List.getElem_mem hj)).1
          unfold maxLen
          omega
        have hm2 : x.2.length = m := HR.out.len
        have HF0 : Hid (Fl U wr (w.heap.size + 1) x (.slice a6 m c6) V C (.slice na x.1.length nc) (.slice none 0 0) 0) := ⟨⟨HR.out.dp.base, HR.out.dp.blk, HR.out.dp.nds, HR.out.dp.fls⟩, HR.out.nm, HR.out.below, hdr, fun j hj => by omega⟩
        have HAt : Hid (0 < m → at_ = x.1.length) := fun h => by rw [HR.out.at_, if_neg (by omega)]
        have hat : at_ ≤ 4096 := by
          rw [HR.out.at_]
          split
          · omega
          · exact hsm.1
        obtain ⟨N, hN⟩ : ∃ n, n = x.1.length := ⟨_, rfl⟩
        have HN : Hid (x.1.length = N ∧ x.2.length = m) := ⟨hN.symm, hm2⟩
        have hN4 : N ≤ 4096 := by rw [hN]; exact hsm.1
        rw [← hN] at HF0 HAt HGd hnc
        clear hN hm2 HR hlt hsm HR0
        obtain ⟨wE, ewE⟩ : ∃ u, u = wr := ⟨_, rfl⟩
        rw [← ewE] at HF0 ⊢
        clear ewE hdr
        go_wp2
        go_loopw [14] (fun v14 wr => ∃ (k : Nat) (fa : Option Addr) (fc : Nat), k ≤ m ∧ v14 = .int .i64 k ∧ Hid (Fl U wr (w.heap.size + 1) x (.slice a6 m c6) V C (.slice na N nc) (.slice fa k fc) k)) (fun v14 _ => m - (intOf v14).toNat)
        case atStart => exact ⟨0, none, 0, Nat.zero_le _, rfl, HF0⟩
        case round =>
          obtain ⟨k, fa, fc, hk, rfl, HL⟩ := hrel
          obtain ⟨wA, ewA⟩ : ∃ u, u = wr := ⟨_, rfl⟩
          rw [← ewA] at HL ⊢
          clear ewA HF0
          have hcd0 : wA.cell? ⟨w.heap.size + 1, 0, none⟩ = some (.slice na N nc) := cell_of_cells HL.out.dp.blk rfl
          have hcd1 : wA.cell? ⟨w.heap.size + 1, 1, none⟩ = some (.slice fa k fc) := cell_of_cells HL.out.dp.blk rfl
          by_cases hlt : k < m
          · have hkz : (k : Int) < m := by omega
            obtain ⟨gn, hgn, hcn⟩ := nm_cells HL.out.nm
            obtain rfl := hgn (by rw [HN.out.2]; omega)
            have hnk := hcn k (by rw [HN.out.2]; exact hlt)
            obtain ⟨s1, hs1⟩ : ∃ z, z = (x.2.getD k (⟨#[]⟩, ⟨#[]⟩)).1 := ⟨_, rfl⟩
            obtain ⟨s2, hs2⟩ : ∃ z, z = (x.2.getD k (⟨#[]⟩, ⟨#[]⟩)).2 := ⟨_, rfl⟩
            have hw := HL.out.nm.rows k (by rw [HN.out.2]; exact hlt)
            rw [← hs1, ← hs2] at hw
            have hv1 : wA.cell? ⟨V k, 1, none⟩ = some (.string s1) := ws_at (l := [flowWd, s1, s2]) hw 1 s1 rfl
            have hv2 : wA.cell? ⟨V k, 2, none⟩ = some (.string s2) := ws_at (l := [flowWd, s1, s2]) hw 2 s2 rfl
            have HjA : Hid (∀ f, FdTo N (mM x.1) s1 0 f → f = jA x k) := fun f hf => by
              unfold jA
              rw [HN.out.1, ← hs1]
              exact hf.done
            have HjB : Hid (∀ f, FdTo N (mM x.1) s2 0 f → f = jB x k) := fun f hf => by
              unfold jB
              rw [HN.out.1, ← hs2]
              exact hf.done
            have hnds : Nds wA na N (mM x.1) (mK x.1) := by
              have h1 := HL.out.dp.nds
              have h2 := HN.out.1
              subst h2
              exact owns_nds h1
            obtain ⟨bn, on, han, hcs⟩ := hnds
            have HAll : Hid (∀ u, Below wA.heap.size wA u → u.cell? ⟨w.heap.size + 1, 0, none⟩ = some (.slice na N nc) ∧ u.cell? ⟨gn, k, none⟩ = some (.slice (some ⟨V k, 0, none⟩) 3 (C k)) ∧ u.cell? ⟨V k, 1, none⟩ = some (.string s1) ∧ u.cell? ⟨V k, 2, none⟩ = some (.string s2) ∧ ∀ q, q < N → u.cell? ⟨bn, on + q * 2, none⟩ = some (.string (mM x.1 q))) := fun u hu => by
              let y : Cls wA := ⟨u, hu⟩
              exact ⟨y.cell hcd0, y.cell hnk, y.cell hv1, y.cell hv2, fun q hq => y.cell (hcs q hq).1⟩
            clear hnk hw hv1 hv2 hcs hcn hs1 hs2 hgn
            obtain ⟨wB, ewB⟩ : ∃ u, u = wA.alloc (.cells #[.int .i64 (-1), .int .i64 (-1)] 42) := ⟨_, rfl⟩
            have HwB : Hid (Below wA.heap.size wA wB ∧ FB wB wA.heap.size (-1) (-1)) := by subst ewB; exact ⟨box_below _ _, Go.Deep.blk_alloc_new _ _⟩
            have HewB : Hid (wA.alloc (.cells #[.int .i64 (-1), .int .i64 (-1)] 42) = wB) := ewB.symm
            have hcB := (HAll.out wB HwB.out.1).1
            rw [ewB] at hcB
            clear ewB
            go_wp2
            rw [HewB.out]
            clear hcB
            go_loopw [16] (fun v16 wr => ∃ (q : Nat), q ≤ N ∧ v16 = .int .i64 ((q : Int) - 1) ∧ Hid (∃ fr to : Int, Below wA.heap.size wA wr ∧ FB wr wA.heap.size fr to ∧ FdTo N (mM x.1) s1 q fr ∧ FdTo N (mM x.1) s2 q to)) (fun v16 _ => (intOf v16 + 1).toNat)
            case atStart => exact ⟨N, Nat.le_refl _, by go_num, hid ⟨-1, -1, HwB.out.1, HwB.out.2, FdTo.start, FdTo.start⟩⟩
            case round =>
              obtain ⟨q0, hq0, rfl, HS⟩ := hrel
              obtain ⟨w5, ew5⟩ : ∃ u, u = wr := ⟨_, rfl⟩
              rw [← ew5] at HS ⊢
              clear ew5
              obtain ⟨fr, to, hb5, hf5, hd1, hd2⟩ := HS.out
              have HBr : Hid (Below wA.heap.size wA w5) := hb5
              have HFb : Hid (FB w5 wA.heap.size fr to) := hf5
              have HD1 : Hid (FdTo N (mM x.1) s1 q0 fr) := hd1
              have HD2 : Hid (FdTo N (mM x.1) s2 q0 to) := hd2
              clear HS hb5 hf5 hd1 hd2
              rcases Nat.eq_zero_or_pos q0 with hq | hq
              · subst hq
                have HA : Hid (fr = jA x k) := HjA.out fr HD1.out
                have HB : Hid (to = jB x k) := HjB.out to HD2.out
                have hfr := HD1.out.range
                have hto := HD2.out.range
                obtain ⟨f0, f1, g0, g1⟩ := HFb.out.cells
                have hd5 : w.heap.size + 1 < w5.heap.size := by have := HBr.out.size; have := (Array.getElem?_eq_some_iff.1 HL.out.dp.blk).1; omega
                have HL5 : Hid (Fl U w5 (w.heap.size + 1) x (.slice (some ⟨gn, 0, none⟩) m c6) V C (.slice na N nc) (.slice fa k fc) k) := HL.out.later HBr.out
                have HTT : Hid (Two w5 w.heap.size none none 0 0 0 0) := (HL5.out.below.block _ (by omega)).trans HU.out.2.1
                have HBB : Hid (Below w.heap.size w w5) := HU.out.1.trans (HL5.out.below.mono (by omega))
                have HE0 : Hid ((jA x k = -1 ∨ jB x k = -1) → ∀ u, PaIs s (noProc ((at_ : Int) + k + 1) 4) u) := fun hh u => by
                  refine Or.inr ⟨HLs.out, Or.inr ⟨L.length, x, HSE.out, Or.inl ⟨k, by rw [HN.out.2]; exact hlt, hh, HL5.out.all, ?_⟩⟩⟩
                  rw [HAt.out (by omega), HN.out.1]
                  simp [noProc]
                clear HjA HjB HAll HwB HewB HD1 HD2 HL hcd0 hcd1
                by_cases hA : fr = -1
                · have HE : Hid (∀ u, PaIs s (noProc ((at_ : Int) + k + 1) 4) u) := HE0.out (Or.inl (by rw [← HA.out]; exact hA))
                  subst hA
                  obtain ⟨hr0, hr1, hf0, hf1⟩ := two_cells0 HTT.out
                  go_wp2
                  (try simp only [Exit.inBlock, Exit.then])
                  refine bodyPost_ret (results_cell_tmp2 rfl _ _ w.heap.size 25 #[.slice none 0 0, .slice none 0 0] (0, 0) _ rfl (two_set HTT.out) Tryd.underlying25 rfl (by kernel_rfl)) rfl ?_
                  exact ⟨HE.out _, ((HBB.out.setCell (Nat.le_refl _) _).setCell (Nat.le_refl _) _)⟩
                · by_cases hB : to = -1
                  · have HE : Hid (∀ u, PaIs s (noProc ((at_ : Int) + k + 1) 4) u) := HE0.out (Or.inr (by rw [← HB.out]; exact hB))
                    subst hB
                    have hfz : 0 ≤ fr := by omega
                    have hfz2 : ¬ fr < 0 := by omega
                    obtain ⟨hr0, hr1, hf0, hf1⟩ := two_cells0 HTT.out
                    clear hA
                    go_wp2
                    (try simp only [Exit.inBlock, Exit.then])
                    refine bodyPost_ret (results_cell_tmp2 rfl _ _ w.heap.size 25 #[.slice none 0 0, .slice none 0 0] (0, 0) _ rfl (two_set HTT.out) Tryd.underlying25 rfl (by kernel_rfl)) rfl ?_
                    exact ⟨HE.out _, ((HBB.out.setCell (Nat.le_refl _) _).setCell (Nat.le_refl _) _)⟩
                  · have hfz : 0 ≤ fr := by omega
                    have hfz2 : ¬ fr < 0 := by omega
                    have htz : 0 ≤ to := by omega
                    have htz2 : ¬ to < 0 := by omega
                    have HJ : Hid (jA x k ≠ -1 ∧ jB x k ≠ -1) := by rw [← HA.out, ← HB.out]; exact ⟨hA, hB⟩
                    have hcd1 : w5.cell? ⟨w.heap.size + 1, 1, none⟩ = some (.slice fa k fc) := cell_of_cells HL5.out.dp.blk rfl
                    clear hA hB
                    go_wp2_with (at_builtin; refine wpList_append_own_at _ rfl _ _ 23 rfl (w.heap.size + 1) 42 i42 (.agg #[.int .i64 0, .int .i64 0]) 2 16 Tryd.underlying23 HI42.out.1 HI42.out.2.1 HI42.out.2.2.1 HI42.out.2.2.2 rfl (by decide) _ _ _ rfl (HL5.out.dp.fls.alloc _) ⟨w5.heap.size, 0, none⟩ 1 1 [.int .i64 fr, .int .i64 to] rfl rfl (two_cells _ _ _ _) (by intro u hu; simp only [List.mem_cons, List.not_mem_nil, or_false] at hu; rcases hu with rfl | rfl <;> rfl) (by unfold maxLen; omega) (by omega) (by simp; omega) ?_; intro v' w9 hown hgrow _ hloc; obtain ⟨d0, d1, ⟨a9, c9, rfl⟩, H9⟩ := HL5.out.more hown hgrow hloc HA.out HB.out HJ.out; clear hown hgrow hloc)
                    go_roundw
                    case rel => exact ⟨k + 1, a9, c9, by omega, by go_num, H9⟩
                    case measure => simp [intOf]; omega
              · obtain ⟨q, rfl⟩ : ∃ q, q0 = q + 1 := ⟨q0 - 1, by omega⟩
                have hqN : q < N := by omega
                have hqz : (q : Int) < N := by omega
                have hq0' : (0 : Int) ≤ q := by omega
                have eq1 : ((q + 1 : Nat) : Int) - 1 = q := by omega
                rw [eq1]
                clear eq1 hq hq0
                obtain rfl := han (by omega)
                cases b1 : ((mM x.1 q).toList == s1.toList)
                · cases b2 : ((mM x.1 q).toList == s2.toList)
                  · skip
                    have _hne := cls_some w5
                    obtain ⟨c1, c2, c3, c4, c5⟩ := HAll.out w5 HBr.out
                    have k1 : ∀ z : Cls w5, z.u.cell? ⟨w.heap.size + 1, 0, none⟩ = some (.slice (some ⟨bn, on, none⟩) N nc) := fun z => z.cell c1
                    have k2 : ∀ z : Cls w5, z.u.cell? ⟨gn, k, none⟩ = some (.slice (some ⟨V k, 0, none⟩) 3 (C k)) := fun z => z.cell c2
                    have k3 : ∀ z : Cls w5, z.u.cell? ⟨V k, 1, none⟩ = some (.string s1) := fun z => z.cell c3
                    have k4 : ∀ z : Cls w5, z.u.cell? ⟨bn, on + q * 2, none⟩ = some (.string (mM x.1 q)) := fun z => z.cell (c5 q hqN)
                    clear c1 c2 c3 c4 c5
                    go_wp2
                    refine wp_region_cls (by kernel_rfl) (by kernel_rfl) ?_
                    repeat (go_big_quiet_step (fail))
                    refine wpQuiet_nil ?_
                    rintro _ ⟨z, rfl⟩
                    have HB6 : Hid (Below wA.heap.size wA z.u) := HBr.out.trans (z.h.mono HBr.out.size)
                    have HF6 : Hid (FB z.u wA.heap.size fr to) := (z.h.block _ HFb.out.lt).trans HFb.out
                    generalize z.u = w6 at *
                    obtain ⟨f0, f1, g0, g1⟩ := HF6.out.cells
                    clear k1 k2 k3 k4 _hne
                    go_wp2
                    obtain ⟨w7, ew7⟩ : ∃ u, u = w6 := ⟨_, rfl⟩
                    have HB7 : Hid (Below wA.heap.size wA w7) := by subst ew7; exact HB6.out
                    have HF7 : Hid (FB w7 wA.heap.size fr to) := by subst ew7; exact HF6.out
                    rw [← ew7]
                    clear ew7 f0 f1 g0 g1 HB6 HF6
                    have _hne := cls_some w7
                    obtain ⟨c1, c2, c3, c4, c5⟩ := HAll.out w7 HB7.out
                    have k1 : ∀ z : Cls w7, z.u.cell? ⟨w.heap.size + 1, 0, none⟩ = some (.slice (some ⟨bn, on, none⟩) N nc) := fun z => z.cell c1
                    have k2 : ∀ z : Cls w7, z.u.cell? ⟨gn, k, none⟩ = some (.slice (some ⟨V k, 0, none⟩) 3 (C k)) := fun z => z.cell c2
                    have k3 : ∀ z : Cls w7, z.u.cell? ⟨V k, 2, none⟩ = some (.string s2) := fun z => z.cell c4
                    have k4 : ∀ z : Cls w7, z.u.cell? ⟨bn, on + q * 2, none⟩ = some (.string (mM x.1 q)) := fun z => z.cell (c5 q hqN)
                    clear c1 c2 c3 c4 c5
                    go_wp2
                    refine wp_region_cls (by kernel_rfl) (by kernel_rfl) ?_
                    repeat (go_big_quiet_step (fail))
                    refine wpQuiet_nil ?_
                    rintro _ ⟨z, rfl⟩
                    have HB8 : Hid (Below wA.heap.size wA z.u) := HB7.out.trans (z.h.mono HB7.out.size)
                    have HF8 : Hid (FB z.u wA.heap.size fr to) := (z.h.block _ HF7.out.lt).trans HF7.out
                    generalize z.u = w8 at *
                    obtain ⟨f0, f1, g0, g1⟩ := HF8.out.cells
                    clear k1 k2 k3 k4 _hne
                    go_wp2
                    have HB9 : Hid (Below wA.heap.size wA w8) := HB8.out
                    have HF9 : Hid (FB w8 wA.heap.size fr to) := HF8.out
                    go_roundw
                    case rel => exact ⟨q, by omega, by go_num, hid ⟨fr, to, HB9.out, HF9.out, HD1.out.miss (toList_no b1), HD2.out.miss (toList_no b2)⟩⟩
                    case measure => simp [intOf]
                  · skip
                    have _hne := cls_some w5
                    obtain ⟨c1, c2, c3, c4, c5⟩ := HAll.out w5 HBr.out
                    have k1 : ∀ z : Cls w5, z.u.cell? ⟨w.heap.size + 1, 0, none⟩ = some (.slice (some ⟨bn, on, none⟩) N nc) := fun z => z.cell c1
                    have k2 : ∀ z : Cls w5, z.u.cell? ⟨gn, k, none⟩ = some (.slice (some ⟨V k, 0, none⟩) 3 (C k)) := fun z => z.cell c2
                    have k3 : ∀ z : Cls w5, z.u.cell? ⟨V k, 1, none⟩ = some (.string s1) := fun z => z.cell c3
                    have k4 : ∀ z : Cls w5, z.u.cell? ⟨bn, on + q * 2, none⟩ = some (.string (mM x.1 q)) := fun z => z.cell (c5 q hqN)
                    clear c1 c2 c3 c4 c5
                    go_wp2
                    refine wp_region_cls (by kernel_rfl) (by kernel_rfl) ?_
                    repeat (go_big_quiet_step (fail))
                    refine wpQuiet_nil ?_
                    rintro _ ⟨z, rfl⟩
                    have HB6 : Hid (Below wA.heap.size wA z.u) := HBr.out.trans (z.h.mono HBr.out.size)
                    have HF6 : Hid (FB z.u wA.heap.size fr to) := (z.h.block _ HFb.out.lt).trans HFb.out
                    generalize z.u = w6 at *
                    obtain ⟨f0, f1, g0, g1⟩ := HF6.out.cells
                    clear k1 k2 k3 k4 _hne
                    go_wp2
                    obtain ⟨w7, ew7⟩ : ∃ u, u = w6 := ⟨_, rfl⟩
                    have HB7 : Hid (Below wA.heap.size wA w7) := by subst ew7; exact HB6.out
                    have HF7 : Hid (FB w7 wA.heap.size fr to) := by subst ew7; exact HF6.out
                    rw [← ew7]
                    clear ew7 f0 f1 g0 g1 HB6 HF6
                    have _hne := cls_some w7
                    obtain ⟨c1, c2, c3, c4, c5⟩ := HAll.out w7 HB7.out
                    have k1 : ∀ z : Cls w7, z.u.cell? ⟨w.heap.size + 1, 0, none⟩ = some (.slice (some ⟨bn, on, none⟩) N nc) := fun z => z.cell c1
                    have k2 : ∀ z : Cls w7, z.u.cell? ⟨gn, k, none⟩ = some (.slice (some ⟨V k, 0, none⟩) 3 (C k)) := fun z => z.cell c2
                    have k3 : ∀ z : Cls w7, z.u.cell? ⟨V k, 2, none⟩ = some (.string s2) := fun z => z.cell c4
                    have k4 : ∀ z : Cls w7, z.u.cell? ⟨bn, on + q * 2, none⟩ = some (.string (mM x.1 q)) := fun z => z.cell (c5 q hqN)
                    clear c1 c2 c3 c4 c5
                    go_wp2
                    refine wp_region_cls (by kernel_rfl) (by kernel_rfl) ?_
                    repeat (go_big_quiet_step (fail))
                    refine wpQuiet_nil ?_
                    rintro _ ⟨z, rfl⟩
                    have HB8 : Hid (Below wA.heap.size wA z.u) := HB7.out.trans (z.h.mono HB7.out.size)
                    have HF8 : Hid (FB z.u wA.heap.size fr to) := (z.h.block _ HF7.out.lt).trans HF7.out
                    generalize z.u = w8 at *
                    obtain ⟨f0, f1, g0, g1⟩ := HF8.out.cells
                    clear k1 k2 k3 k4 _hne
                    go_wp2
                    have HB9 : Hid (Below wA.heap.size wA (w8.setCell ⟨wA.heap.size, 1, none⟩ (.int .i64 q))) := HB8.out.setCell (Nat.le_refl _) _
                    have HF9 : Hid (FB (w8.setCell ⟨wA.heap.size, 1, none⟩ (.int .i64 q)) wA.heap.size fr (q : Int)) := HF8.out.set1 _
                    go_roundw
                    case rel => exact ⟨q, by omega, by go_num, hid ⟨fr, (q : Int), HB9.out, HF9.out, HD1.out.miss (toList_no b1), FdTo.hit hqN (toList_inj.1 b2)⟩⟩
                    case measure => simp [intOf]
                · cases b2 : ((mM x.1 q).toList == s2.toList)
                  · skip
                    have _hne := cls_some w5
                    obtain ⟨c1, c2, c3, c4, c5⟩ := HAll.out w5 HBr.out
                    have k1 : ∀ z : Cls w5, z.u.cell? ⟨w.heap.size + 1, 0, none⟩ = some (.slice (some ⟨bn, on, none⟩) N nc) := fun z => z.cell c1
                    have k2 : ∀ z : Cls w5, z.u.cell? ⟨gn, k, none⟩ = some (.slice (some ⟨V k, 0, none⟩) 3 (C k)) := fun z => z.cell c2
                    have k3 : ∀ z : Cls w5, z.u.cell? ⟨V k, 1, none⟩ = some (.string s1) := fun z => z.cell c3
                    have k4 : ∀ z : Cls w5, z.u.cell? ⟨bn, on + q * 2, none⟩ = some (.string (mM x.1 q)) := fun z => z.cell (c5 q hqN)
                    clear c1 c2 c3 c4 c5
                    go_wp2
                    refine wp_region_cls (by kernel_rfl) (by kernel_rfl) ?_
                    repeat (go_big_quiet_step (fail))
                    refine wpQuiet_nil ?_
                    rintro _ ⟨z, rfl⟩
                    have HB6 : Hid (Below wA.heap.size wA z.u) := HBr.out.trans (z.h.mono HBr.out.size)
                    have HF6 : Hid (FB z.u wA.heap.size fr to) := (z.h.block _ HFb.out.lt).trans HFb.out
                    generalize z.u = w6 at *
                    obtain ⟨f0, f1, g0, g1⟩ := HF6.out.cells
                    clear k1 k2 k3 k4 _hne
                    go_wp2
                    obtain ⟨w7, ew7⟩ : ∃ u, u = w6.setCell ⟨wA.heap.size, 0, none⟩ (.int .i64 q) := ⟨_, rfl⟩
                    have HB7 : Hid (Below wA.heap.size wA w7) := by subst ew7; exact HB6.out.setCell (Nat.le_refl _) _
                    have HF7 : Hid (FB w7 wA.heap.size (q : Int) to) := by subst ew7; exact HF6.out.set0 _
                    rw [← ew7]
                    clear ew7 f0 f1 g0 g1 HB6 HF6
                    have _hne := cls_some w7
                    obtain ⟨c1, c2, c3, c4, c5⟩ := HAll.out w7 HB7.out
                    have k1 : ∀ z : Cls w7, z.u.cell? ⟨w.heap.size + 1, 0, none⟩ = some (.slice (some ⟨bn, on, none⟩) N nc) := fun z => z.cell c1
                    have k2 : ∀ z : Cls w7, z.u.cell? ⟨gn, k, none⟩ = some (.slice (some ⟨V k, 0, none⟩) 3 (C k)) := fun z => z.cell c2
                    have k3 : ∀ z : Cls w7, z.u.cell? ⟨V k, 2, none⟩ = some (.string s2) := fun z => z.cell c4
                    have k4 : ∀ z : Cls w7, z.u.cell? ⟨bn, on + q * 2, none⟩ = some (.string (mM x.1 q)) := fun z => z.cell (c5 q hqN)
                    clear c1 c2 c3 c4 c5
                    go_wp2
                    refine wp_region_cls (by kernel_rfl) (by kernel_rfl) ?_
                    repeat (go_big_quiet_step (fail))
                    refine wpQuiet_nil ?_
                    rintro _ ⟨z, rfl⟩
                    have HB8 : Hid (Below wA.heap.size wA z.u) := HB7.out.trans (z.h.mono HB7.out.size)
                    have HF8 : Hid (FB z.u wA.heap.size (q : Int) to) := (z.h.block _ HF7.out.lt).trans HF7.out
                    generalize z.u = w8 at *
                    obtain ⟨f0, f1, g0, g1⟩ := HF8.out.cells
                    clear k1 k2 k3 k4 _hne
                    go_wp2
                    have HB9 : Hid (Below wA.heap.size wA w8) := HB8.out
                    have HF9 : Hid (FB w8 wA.heap.size (q : Int) to) := HF8.out
                    go_roundw
                    case rel => exact ⟨q, by omega, by go_num, hid ⟨(q : Int), to, HB9.out, HF9.out, FdTo.hit hqN (toList_inj.1 b1), HD2.out.miss (toList_no b2)⟩⟩
                    case measure => simp [intOf]
                  · skip
                    have _hne := cls_some w5
                    obtain ⟨c1, c2, c3, c4, c5⟩ := HAll.out w5 HBr.out
                    have k1 : ∀ z : Cls w5, z.u.cell? ⟨w.heap.size + 1, 0, none⟩ = some (.slice (some ⟨bn, on, none⟩) N nc) := fun z => z.cell c1
                    have k2 : ∀ z : Cls w5, z.u.cell? ⟨gn, k, none⟩ = some (.slice (some ⟨V k, 0, none⟩) 3 (C k)) := fun z => z.cell c2
                    have k3 : ∀ z : Cls w5, z.u.cell? ⟨V k, 1, none⟩ = some (.string s1) := fun z => z.cell c3
                    have k4 : ∀ z : Cls w5, z.u.cell? ⟨bn, on + q * 2, none⟩ = some (.string (mM x.1 q)) := fun z => z.cell (c5 q hqN)
                    clear c1 c2 c3 c4 c5
                    go_wp2
                    refine wp_region_cls (by kernel_rfl) (by kernel_rfl) ?_
                    repeat (go_big_quiet_step (fail))
                    refine wpQuiet_nil ?_
                    rintro _ ⟨z, rfl⟩
                    have HB6 : Hid (Below wA.heap.size wA z.u) := HBr.out.trans (z.h.mono HBr.out.size)
                    have HF6 : Hid (FB z.u wA.heap.size fr to) := (z.h.block _ HFb.out.lt).trans HFb.out
                    generalize z.u = w6 at *
                    obtain ⟨f0, f1, g0, g1⟩ := HF6.out.cells
                    clear k1 k2 k3 k4 _hne
                    go_wp2
                    obtain ⟨w7, ew7⟩ : ∃ u, u = w6.setCell ⟨wA.heap.size, 0, none⟩ (.int .i64 q) := ⟨_, rfl⟩
                    have HB7 : Hid (Below wA.heap.size wA w7) := by subst ew7; exact HB6.out.setCell (Nat.le_refl _) _
                    have HF7 : Hid (FB w7 wA.heap.size (q : Int) to) := by subst ew7; exact HF6.out.set0 _
                    rw [← ew7]
                    clear ew7 f0 f1 g0 g1 HB6 HF6
                    have _hne := cls_some w7
                    obtain ⟨c1, c2, c3, c4, c5⟩ := HAll.out w7 HB7.out
                    have k1 : ∀ z : Cls w7, z.u.cell? ⟨w.heap.size + 1, 0, none⟩ = some (.slice (some ⟨bn, on, none⟩) N nc) := fun z => z.cell c1
                    have k2 : ∀ z : Cls w7, z.u.cell? ⟨gn, k, none⟩ = some (.slice (some ⟨V k, 0, none⟩) 3 (C k)) := fun z => z.cell c2
                    have k3 : ∀ z : Cls w7, z.u.cell? ⟨V k, 2, none⟩ = some (.string s2) := fun z => z.cell c4
                    have k4 : ∀ z : Cls w7, z.u.cell? ⟨bn, on + q * 2, none⟩ = some (.string (mM x.1 q)) := fun z => z.cell (c5 q hqN)
                    clear c1 c2 c3 c4 c5
                    go_wp2
                    refine wp_region_cls (by kernel_rfl) (by kernel_rfl) ?_
                    repeat (go_big_quiet_step (fail))
                    refine wpQuiet_nil ?_
                    rintro _ ⟨z, rfl⟩
                    have HB8 : Hid (Below wA.heap.size wA z.u) := HB7.out.trans (z.h.mono HB7.out.size)
                    have HF8 : Hid (FB z.u wA.heap.size (q : Int) to) := (z.h.block _ HF7.out.lt).trans HF7.out
                    generalize z.u = w8 at *
                    obtain ⟨f0, f1, g0, g1⟩ := HF8.out.cells
                    clear k1 k2 k3 k4 _hne
                    go_wp2
                    have HB9 : Hid (Below wA.heap.size wA (w8.setCell ⟨wA.heap.size, 1, none⟩ (.int .i64 q))) := HB8.out.setCell (Nat.le_refl _) _
                    have HF9 : Hid (FB (w8.setCell ⟨wA.heap.size, 1, none⟩ (.int .i64 q)) wA.heap.size (q : Int) (q : Int)) := HF8.out.set1 _
                    go_roundw
                    case rel => exact ⟨q, by omega, by go_num, hid ⟨(q : Int), (q : Int), HB9.out, HF9.out, FdTo.hit hqN (toList_inj.1 b1), FdTo.hit hqN (toList_inj.1 b2)⟩⟩
                    case measure => simp [intOf]
          · obtain rfl : m = k := by omega
            have HAl : Hid (∀ j, j < x.2.length → jA x j ≠ -1 ∧ jB x j ≠ -1) := fun j hj => HL.out.all j (by rw [HN.out.2] at hj; exact hj)
            have HP : Hid (Prc wA na N nc fa m (mM x.1) (mK x.1) (jA x) (jB x)) := by
              have h1 := HL.out.dp.nds
              have h2 := HN.out.1
              subst h2
              exact ⟨owns_nds h1, owns_fls HL.out.dp.fls, hnc, by omega, by omega⟩
            obtain ⟨e0, he0⟩ := chk_ex N m (mM x.1) (mK x.1) (jA x) (jB x)
            have HE : Hid (ChkIs x.1.length x.2.length (mM x.1) (mK x.1) (jA x) (jB x) e0) := by rw [HN.out.1, HN.out.2]; exact he0
            have C3 : Hid (Calls Tryd.prog 6 #[.agg #[.slice na N nc, .slice fa m fc]] wA fun e w' => e = .returned (.int .i64 e0) ∧ Below wA.heap.size wA w') := process_any na fa N nc m fc _ _ _ _ e0 wA HP.out HGd.out he0
            clear he0
            go_wp2_with fail
            refine C3.out.mono ?_
            rintro e w3 ⟨rfl, hb3⟩
            have hd5 : w.heap.size + 1 < wA.heap.size := (Array.getElem?_eq_some_iff.1 HL.out.dp.blk).1
            have HP3 : Hid (Prc w3 na N nc fa m (mM x.1) (mK x.1) (jA x) (jB x)) := HP.out.below hb3
            have HL3 : Hid (Fl U w3 (w.heap.size + 1) x (.slice a6 m c6) V C (.slice na N nc) (.slice fa m fc) m) := HL.out.later hb3
            have HT3 : Hid (Two w3 w.heap.size none none 0 0 0 0) := (HL3.out.below.block _ (by omega)).trans HU.out.2.1
            have HBw3 : Hid (Below w.heap.size w w3) := HU.out.1.trans (HL3.out.below.mono (by omega))
            obtain ⟨hr0, hr1, hf0, hf1⟩ := two_cells0 HT3.out
            have hp0 : w3.cell? ⟨w.heap.size + 1, 0, none⟩ = some (.slice na N nc) := cell_of_cells HL3.out.dp.blk rfl
            have hp1 : w3.cell? ⟨w.heap.size + 1, 1, none⟩ = some (.slice fa m fc) := cell_of_cells HL3.out.dp.blk rfl
            clear hb3 C3 HP HL hcd0 hcd1
            by_cases hz0 : e0 = 0
            · subst hz0
              go_wp2
              (try simp only [Exit.inBlock, Exit.then])
              refine bodyPost_ret (results_cell_tmp2 rfl _ _ w.heap.size 25 #[.slice na N nc, .slice fa m fc] (0, 0) _ rfl (two_set HT3.out) Tryd.underlying25 rfl (by kernel_rfl)) rfl ?_
              refine ⟨Or.inr ⟨HLs.out, Or.inr ⟨L.length, x, HSE.out, Or.inr ⟨HAl.out, 0, HE.out, Or.inr ⟨rfl, na, nc, fa, fc, by rw [HN.out.1, HN.out.2]; rfl, ?_⟩⟩⟩⟩, ((HBw3.out.setCell (Nat.le_refl _) _).setCell (Nat.le_refl _) _)⟩
              rw [HN.out.1, HN.out.2]
              have hT4 : Two (w3.setCell ⟨w.heap.size, 0, none⟩ (.slice na N nc)) w.heap.size na none N 0 nc 0 := by
                have h := HT3.out
                unfold Two at *
                rw [blk_setCell_self h]
                rfl
              exact ⟨(HP3.out.nds.set HT3.out).set hT4, (HP3.out.fls.set HT3.out).set hT4, HP3.out.cap, HP3.out.nN, HP3.out.nF⟩
            · have hz' : (e0 != 0) = true := by rw [bne_iff_ne]; exact hz0
              have HZ : Hid (e0 ≠ 0) := hz0
              clear hz0
              go_wp2
              (try simp only [Exit.inBlock, Exit.then])
              refine bodyPost_ret (results_cell_tmp2 rfl _ _ w.heap.size 25 #[.slice none 0 0, .slice none 0 0] (0, 0) _ rfl (two_set HT3.out) Tryd.underlying25 rfl (by kernel_rfl)) rfl ?_
              exact ⟨Or.inr ⟨HLs.out, Or.inr ⟨L.length, x, HSE.out, Or.inr ⟨HAl.out, e0, HE.out, Or.inl ⟨HZ.out, rfl⟩⟩⟩⟩, ((HBw3.out.setCell (Nat.le_refl _) _).setCell (Nat.le_refl _) _)⟩

end Go.Proofs.YtnpdkpbhkjnbhaaDoor
