/- The document's numbers of pairs: numbered's own closure. -/
import Derived.Test.YtdncjikmknkkpaaDnp
import Derived.Test.YtdncjikmknkkpaaRll
import Derived.Deep.AppendLies
namespace Go.Proofs.Ytdncjikmknkkpaa
open Go.RowKit

theorem Try.info59 : (Try.prog.info? 59).map (fun i => (i.zero, i.size, i.bytes)) = some (some (.agg #[.int .i64 0, .int .i64 0]), 2, 16) := by kernel_rfl

/-- An own row of pairs, as a slice. -/
theorem owns_pd {w : World} {base : Nat} {v : Value} {l : List (Nat × Nat)} (h : w.ownsRow base 59 2 v l.length (pcells l)) :
    ∃ a c, v = .slice a l.length c ∧ Sp w a l.length (nAt l) := by
  rcases h.2 with ⟨rfl, h0⟩ | ⟨g, cap, cur, rfl, hb, hg, _⟩
  · exact ⟨none, 0, by rw [h0], ⟨0, fun hh => by omega, fun i hi => by omega⟩⟩
  · refine ⟨some ⟨g, 0, none⟩, cap, rfl, ⟨g, fun _ => rfl, fun i hi => ?_⟩⟩
    obtain ⟨h1, h2⟩ := pcells_at l i hi
    have e1 := h.cells (g := g) rfl _ _ h1
    have e2 := h.cells (g := g) rfl _ _ h2
    rw [Addr.add_mid, Nat.zero_add] at e1 e2
    exact ⟨e1, e2⟩

theorem Fr.tra {ex ey : Nat → Prop} {a b c : World} (h : Fr ex a b) (k : Fr ey b c) (he : ∀ x, x < a.heap.size → ey x → ex x) : Fr ex a c :=
  ⟨k.os.trans h.os, k.tape.trans h.tape, k.output.trans h.output, Nat.le_trans h.size k.size, fun x hx hn => (k.block x (Nat.lt_of_lt_of_le hx h.size) (fun e => hn (he x hx e))).trans (h.block x hx hn)⟩

/-- While the pairs of a list get their numbers. -/
structure Nu (w : World) (Bl : Nat) (pv0 : Value) (P0 xs : List (Nat × Nat)) (k : Nat) (W : World) (pv lv : Value) : Prop where
  var : W.heap[Bl]? = some (.cells #[pv] 58)
  own : W.ownsRow 0 59 2 pv (nAdds P0 (xs.take k)).length (pcells (nAdds P0 (xs.take k)))
  out : W.ownsRow w.heap.size 3 1 lv (cs ((xs.take k).map fun p => ix p (nAdds P0 (xs.take k)))).length (vals (cs ((xs.take k).map fun p => ix p (nAdds P0 (xs.take k)))))
  fr : Fr (fun b => b = Bl ∨ pv0.ownBlock = some b) w W
  loc : pv.ownBlock = pv0.ownBlock ∨ ∀ b, pv.ownBlock = some b → w.heap.size ≤ b

/-- Memory stays but for new blocks. -/
theorem Nu.below {w : World} {Bl : Nat} {pv0 : Value} {P0 xs : List (Nat × Nat)} {k : Nat} {W W' : World} {pv lv : Value} (h : Nu w Bl pv0 P0 xs k W pv lv) (hb : Below W.heap.size W W') : Nu w Bl pv0 P0 xs k W' pv lv :=
  ⟨(hb.block _ (Array.getElem?_eq_some_iff.1 h.var).1).trans h.var, owns_below h.own hb, owns_below h.out hb, h.fr.tra (ey := fun b => b = Bl ∨ pv0.ownBlock = some b) ⟨hb.os, hb.tape, hb.output, hb.size, fun b hb2 _ => hb.block b hb2⟩ (fun _ _ h => h), h.loc⟩

/-- A pair is there, or goes to the end. -/
theorem Nu.put {w : World} {Bl : Nat} {pv0 : Value} {P0 xs : List (Nat × Nat)} {k : Nat} {W W4 : World} {pv pv' lv : Value} {p : Nat × Nat} {o : Obj} (h : Nu w Bl pv0 P0 xs k W pv lv) (hx : xs[k]? = some p) (hn : p ∉ nAdds P0 (xs.take k))
    (hown : W4.ownsRow 0 59 2 pv' ((nAdds P0 (xs.take k)).length + 1) (pcells (nAdds P0 (xs.take k)) ++ [.int .i64 ((p.1 : Nat) : Int), .int .i64 ((p.2 : Nat) : Int)])) (hgr : (W.alloc o).grownBy W4 pv.ownBlock) (hat : pv.ownBlock = pv'.ownBlock ∨ pv'.ownBlock = some (W.heap.size + 1)) :
    W4.cell? ⟨Bl, 0, none⟩ = some pv ∧ W4.frozen? ⟨Bl, 0, none⟩ = false ∧ (∀ b, b < W.heap.size → pv.ownBlock ≠ some b → W4.heap[b]? = W.heap[b]?) ∧
    Hid ((W4.setCell ⟨Bl, 0, none⟩ pv').heap[Bl]? = some (.cells #[pv'] 58) ∧ (W4.setCell ⟨Bl, 0, none⟩ pv').ownsRow 0 59 2 pv' (nAdds P0 (xs.take (k + 1))).length (pcells (nAdds P0 (xs.take (k + 1)))) ∧
      (W4.setCell ⟨Bl, 0, none⟩ pv').ownsRow w.heap.size 3 1 lv (cs ((xs.take k).map fun p => ix p (nAdds P0 (xs.take (k + 1))))).length (vals (cs ((xs.take k).map fun p => ix p (nAdds P0 (xs.take (k + 1)))))) ∧
      Fr (fun b => b = Bl ∨ pv0.ownBlock = some b) w (W4.setCell ⟨Bl, 0, none⟩ pv') ∧ (pv'.ownBlock = pv0.ownBlock ∨ ∀ b, pv'.ownBlock = some b → w.heap.size ≤ b)) := by
  have hg := (World.grownBy_alloc W o pv.ownBlock).trans hgr
  have hk : ∀ b, b < W.heap.size → pv.ownBlock ≠ some b → W4.heap[b]? = W.heap[b]? := fun b hb hne => hg.block b hb (fun e => hne e.symm)
  have hv : ∀ {b : Nat} {c : Array Value} {t : TypeId} {z : Nat × Nat}, W.heap[b]? = some (.cells c t z) → t ≠ 59 → pv.ownBlock ≠ some b := fun {b c t z} hb ht e => by
    obtain ⟨c2, z2, h3⟩ := owns_blk h.own e
    rw [hb] at h3
    cases h3
    exact ht rfl
  have hlB := (Array.getElem?_eq_some_iff.1 h.var).1
  have ha : W4.heap[Bl]? = some (.cells #[pv] 58) := (hk Bl hlB (hv h.var (by decide))).trans h.var
  have hbut : But Bl W4 (W4.setCell ⟨Bl, 0, none⟩ pv') := (But.refl _ _).setCell 0 _
  have hset : ∀ {base : Nat} {e : TypeId} {size : Nat} {v : Value} {n : Nat} {ys : List Value}, e ≠ 58 → W4.ownsRow base e size v n ys → (W4.setCell ⟨Bl, 0, none⟩ pv').ownsRow base e size v n ys := fun {base e size v n ys} he h1 => owns_of_blk h1 (fun b e1 => by
    obtain ⟨c, z, h2⟩ := owns_blk h1 e1
    exact hbut.block b (Array.getElem?_eq_some_iff.1 h2).1 (fun e2 => by
      rw [e2, ha] at h2
      cases h2
      exact he rfl))
  have ht : xs.take (k + 1) = xs.take k ++ [p] := by rw [List.take_add_one, hx]; rfl
  have e1 : nAdds P0 (xs.take (k + 1)) = nAdds P0 (xs.take k) ++ [p] := by rw [ht, nAdds_snoc, nAdd, if_neg hn]
  have hnum : ((xs.take k).map fun p => ix p (nAdds P0 (xs.take (k + 1)))) = (xs.take k).map fun p => ix p (nAdds P0 (xs.take k)) := List.map_congr_left (fun y hy => by
    rw [e1]
    exact ix_app ((mem_nAdds _ _).2 (Or.inr hy)))
  refine ⟨cell_of_cells ha rfl, by simp [World.frozen?, ha], hk, hid ⟨?_, ?_, ?_, ?_, ?_⟩⟩
  · have e := blk_setCell (i := 0) (v := pv') ha
    simpa using e
  · rw [e1, List.length_append, ← pcells_snoc]
    exact hset (by decide) hown
  · rw [hnum]
    exact hset (by decide) (owns_of_blk h.out (fun b e => by
      obtain ⟨c, z, h2⟩ := owns_blk h.out e
      exact hk b (Array.getElem?_eq_some_iff.1 h2).1 (hv h2 (by decide))))
  · refine ((h.fr.grown hg (fun b hb hlt => ?_))).setCell (p := ⟨Bl, 0, none⟩) (fun _ => Or.inl rfl) _
    rcases h.loc with e | e
    · exact Or.inr (by rw [← e]; exact hb)
    · have := e b hb; omega
  · rcases hat with e | e
    · rcases h.loc with e2 | e2
      · exact Or.inl (e.symm.trans e2)
      · exact Or.inr (fun b hb => e2 b (e.trans hb))
    · refine Or.inr (fun b hb => ?_)
      rw [e] at hb
      have h2 : W.heap.size + 1 = b := Option.some.inj hb
      have := h.fr.size
      omega

/-- A number goes to the end of the list. -/
theorem nu_num {w : World} {Bl : Nat} {pv0 : Value} {P0 xs : List (Nat × Nat)} {k : Nat} {W W7 : World} {pv lv lv' : Value} {p : Nat × Nat} {o : Obj} (hx : xs[k]? = some p)
    (h1 : W.heap[Bl]? = some (.cells #[pv] 58)) (h2 : W.ownsRow 0 59 2 pv (nAdds P0 (xs.take (k + 1))).length (pcells (nAdds P0 (xs.take (k + 1)))))
    (h3 : W.ownsRow w.heap.size 3 1 lv (cs ((xs.take k).map fun p => ix p (nAdds P0 (xs.take (k + 1))))).length (vals (cs ((xs.take k).map fun p => ix p (nAdds P0 (xs.take (k + 1)))))))
    (h4 : Fr (fun b => b = Bl ∨ pv0.ownBlock = some b) w W) (h5 : pv.ownBlock = pv0.ownBlock ∨ ∀ b, pv.ownBlock = some b → w.heap.size ≤ b)
    (hown : W7.ownsRow w.heap.size 3 1 lv' ((cs ((xs.take k).map fun p => ix p (nAdds P0 (xs.take (k + 1))))).length + 1) (vals (cs ((xs.take k).map fun p => ix p (nAdds P0 (xs.take (k + 1))))) ++ [.int .i64 ((ix p (nAdds P0 (xs.take (k + 1))) : Nat) : Int)])) (hgr : (W.alloc o).grownBy W7 lv.ownBlock) : Nu w Bl pv0 P0 xs (k + 1) W7 pv lv' := by
  have hg := (World.grownBy_alloc W o lv.ownBlock).trans hgr
  have hk : ∀ {b : Nat} {c : Array Value} {t : TypeId} {z : Nat × Nat}, W.heap[b]? = some (.cells c t z) → t ≠ 3 → W7.heap[b]? = W.heap[b]? := fun {b c t z} hb ht => hg.block b (Array.getElem?_eq_some_iff.1 hb).1 (fun e => by
    obtain ⟨c2, z2, h6⟩ := owns_blk h3 e.symm
    rw [hb] at h6
    cases h6
    exact ht rfl)
  have ht : xs.take (k + 1) = xs.take k ++ [p] := by rw [List.take_add_one, hx]; rfl
  have hnum : ((xs.take (k + 1)).map fun p => ix p (nAdds P0 (xs.take (k + 1)))) = ((xs.take k).map fun p => ix p (nAdds P0 (xs.take (k + 1)))) ++ [ix p (nAdds P0 (xs.take (k + 1)))] := by
    conv => lhs; rw [ht, List.map_append]
    rw [← ht]
    rfl
  refine ⟨(hk h1 (by decide)).trans h1, owns_of_blk h2 (fun b e => by
    obtain ⟨c, z, h6⟩ := owns_blk h2 e
    exact hk h6 (by decide)), ?_, h4.grown hg (fun b hb hlt => by have := (h3.lt b hb).1; omega), h5⟩
  rw [hnum, cs_snoc, List.length_append, ← vals_snoc]
  exact hown

end Go.Proofs.Ytdncjikmknkkpaa
