/- slices.Insert of letters, where there is no room; and of one letter, whole. -/
import Derived.Test.YtejombhfkobcbaaDoorIns
import Derived.Test.YtejombhfkobcbaaDoorStt
namespace Go.Proofs.YtejombhfkobcbaaDoor
open Go.RowKit

set_option maxHeartbeats 4000000 in
set_option maxRecDepth 100000 in
/-- There is no room: a new row. -/
theorem insert_grow (b off n c i vb voff m vc : Nat) (cs vs : List Value) (w : World) (hi : i < n) (hm : 0 < m) (hnc : n ≤ c) (hroom : c < n + m) (hbig : (n + m) * 8 ≤ 140737488355328)
    (hcl : cs.length = n) (hvl : vs.length = m)
    (hcs : ∀ j v, cs[j]? = some v → w.cell? ⟨b, off + j, none⟩ = some v)
    (hvs : ∀ j v, vs[j]? = some v → w.cell? ⟨vb, voff + j, none⟩ = some v) (h1c : ∀ v ∈ cs, v.oneCell' = true) (h1v : ∀ v ∈ vs, v.oneCell' = true) :
    Calls Tryd.prog 29 #[.slice (some ⟨b, off, none⟩) n c, .int .i64 i, .slice (some ⟨vb, voff, none⟩) m vc] w fun e w' => ∃ (G : Nat) (R : Array Value),
      n + m ≤ G ∧ R.toList.take i = cs.take i ∧ n + m ≤ R.size ∧ e = .returned (.slice (some ⟨w.heap.size, 0, none⟩) (n + m) G) ∧
      w' = (((w.alloc (.cells R 30)).drew.setCells w.heap.size i vs).drew).setCells w.heap.size (i + m) (cs.drop i) := by
  obtain ⟨i0, hi0, hz0, hzs, hzb⟩ := info_parts Tryd.info30
  have hz1 : ¬ ((m : Int) = 0) := by omega
  have hz2 : ¬ ((i : Int) = (n : Int)) := by omega
  have hz3 : (c : Int) < (n : Int) + (m : Int) := by omega
  have hbw : b < w.heap.size := World.block_lt_of_cell? _ _ (hcs 0 _ (List.getElem?_eq_getElem (by omega)))
  have hvw : vb < w.heap.size := World.block_lt_of_cell? _ _ (hvs 0 _ (List.getElem?_eq_getElem (by omega)))
  have hkk : (n : Int) + (m : Int) - (i : Int) = ((n + m - i : Nat) : Int) := by omega
  have hik : i + (n + m - i) = n + m := by omega
  have hold : (Builtin.firstCells i0.size i (.slice (some ⟨b, off, none⟩) i c)).run Tryd.prog w.drew = .ok (cs.take i).toArray w.drew := by
    rw [hzs]
    exact run_firstCells_some w.drew 1 i ⟨b, off, none⟩ i c (cs.take i) (by rw [List.length_take]; omega) (fun j v hj => by
      rw [addr_none]
      rw [List.getElem?_take] at hj
      split at hj
      · exact hcs j v hj
      · cases hj)
  have hrz : ∀ ty, (Builtin.append_ #[25, 3] ty #[.slice (some ⟨b, off, none⟩) i c, .int .i64 ((n : Int) + (m : Int) - (i : Int))]).run Tryd.prog w =
      .ok (.slice (some ⟨w.heap.size, 0, none⟩) (n + m) (grownCap w (n + m) c 30)) (w.drew.alloc (.cells ((cs.take i).toArray ++ Builtin.zeroCells (Value.int .u64 0).cells (n + m - i) ++ Builtin.zeroCells (Value.int .u64 0).cells (grownCap w (n + m) c 30 - (n + m))) 30)) := fun ty => by
    have h := Lib.run_append_grow_zeros w 25 3 ty 30 i0 _ .i64 .i64 Tryd.underlying25 Tryd.underlying3 hi0 hz0 (some ⟨b, off, none⟩) i c (cs.take i) hold (n + m - i) (by omega) (by omega) (by omega) (by omega) (by rw [hzb]; omega) (by rw [hzb, hik]; exact growslice_fits hroom hbig)
    rw [hik] at h
    rw [hkk]
    exact h
  obtain ⟨G, hG⟩ : ∃ G, G = grownCap w (n + m) c 30 := ⟨_, rfl⟩
  obtain ⟨ROW, hROW⟩ : ∃ ROW : Array Value, ROW = (cs.take i).toArray ++ Builtin.zeroCells (Value.int .u64 0).cells (n + m - i) ++ Builtin.zeroCells (Value.int .u64 0).cells (G - (n + m)) := ⟨_, rfl⟩
  rw [← hG] at hrz
  rw [← hROW] at hrz
  have hRl : n + m ≤ ROW.size := by
    rw [hROW]
    simp [Builtin.zeroCells, Value.cells]
    omega
  have hRt : ROW.toList.take i = cs.take i := by
    have hl : (cs.take i).length = i := by rw [List.length_take]; omega
    rw [hROW]
    simp only [Array.toList_append, List.append_assoc]
    exact List.take_left' hl
  obtain ⟨W1, hW1⟩ : ∃ W1, W1 = w.drew.alloc (.cells ROW 30) := ⟨_, rfl⟩
  rw [← hW1] at hrz
  have hN : ∀ j, j < n + m → (W1.cell? ⟨w.heap.size, j, none⟩).isSome = true := fun j hj => by
    rw [hW1, World.cell?_alloc_at (w := w.drew) ROW _ w.heap.size j rfl, Array.getElem?_eq_getElem (by omega)]; rfl
  have hNf : ∀ j, W1.frozen? ⟨w.heap.size, j, none⟩ = false := fun j => by rw [hW1]; exact World.frozen?_alloc_at (w := w.drew) ROW _ w.heap.size j rfl
  have hOb : ∀ j v, w.cell? ⟨b, j, none⟩ = some v → W1.cell? ⟨b, j, none⟩ = some v := fun j v h => by rw [hW1, World.cell?_alloc_past (w := w.drew) _ b j hbw]; exact h
  have hOv : ∀ j v, w.cell? ⟨vb, j, none⟩ = some v → W1.cell? ⟨vb, j, none⟩ = some v := fun j v h => by rw [hW1, World.cell?_alloc_past (w := w.drew) _ vb j hvw]; exact h
  have hcpA : ∀ (W : World), (∀ x, W.cell? x = W1.cell? x) → (∀ x, W.frozen? x = W1.frozen? x) → ∀ ty dc, (Builtin.copy_ #[25, 25] ty #[.slice (some ⟨w.heap.size, i, none⟩) (n + m - i) dc, .slice (some ⟨vb, voff, none⟩) m vc]).run Tryd.prog W = .ok (goInt vs.length) (W.setCells w.heap.size i vs) := fun W hWc hWf ty dc =>
    run_copy_cells W _ _ ty 30 w.heap.size i (n + m - i) dc ⟨vb, voff, none⟩ m vc vs Tryd.underlying25 size1 (by rw [hvl]; simp only [Nat.min_def]; split <;> omega)
      (fun j v hj => by rw [addr_none, hWc]; exact hOv _ v (hvs j v hj))
      (fun j hj => by rw [hWc]; exact hN _ (by omega)) (fun j hj => by rw [hWf]; exact hNf _) h1v
  have hGn : n + m ≤ G := by rw [hG]; exact grownCap_ge w _ _ _
  have hG63 : G ≤ 9223372036854775807 := by
    have := grownCap_le_maxLen w (n + m) c 30 (by unfold maxLen; omega)
    rw [← hG] at this
    unfold maxLen at this
    omega
  have hGi : ¬ (G = i) := by omega
  have hGim : ¬ (G = i + m) := by omega
  have hci : ¬ (c = i) := by omega
  have hbN : b ≠ w.heap.size := by omega
  have hdl : (cs.drop i).length = n - i := by rw [List.length_drop, hcl]
  have hcpB : ∀ (W : World), (∀ x, W.cell? x = (W1.setCells w.heap.size i vs).cell? x) → (∀ x, W.frozen? x = (W1.setCells w.heap.size i vs).frozen? x) → ∀ ty dc sc, (Builtin.copy_ #[25, 25] ty #[.slice (some ⟨w.heap.size, i + m, none⟩) (n + m - (i + m)) dc, .slice (some ⟨b, off + i, none⟩) (n - i) sc]).run Tryd.prog W = .ok (goInt (cs.drop i).length) (W.setCells w.heap.size (i + m) (cs.drop i)) := fun W hWc hWf ty dc sc =>
    run_copy_cells W _ _ ty 30 w.heap.size (i + m) (n + m - (i + m)) dc ⟨b, off + i, none⟩ (n - i) sc (cs.drop i) Tryd.underlying25 size1 (by rw [hdl]; simp only [Nat.min_def]; split <;> omega)
      (fun j v hj => by
        rw [addr_none, hWc, World.cell?_setCells_out _ _ _ _ _ (fun h _ => absurd h hbN), Nat.add_assoc]
        exact hOb _ v (hcs (i + j) v (by rwa [List.getElem?_drop] at hj)))
      (fun j hj => by rw [hWc]; exact some_set _ _ _ _ (fun t ht => hN _ (by omega)) _ (hN _ (by omega)))
      (fun j hj => by rw [hWf, World.frozen?_setCells]; exact hNf _) (fun v hv => h1c v (List.mem_of_mem_drop hv))
  subst hW1
  have hE1 : ∀ x, ((w.alloc (.cells ROW 30)).drew).cell? x = (w.drew.alloc (.cells ROW 30)).cell? x := fun x => rfl
  have hE2 : ∀ x, ((w.alloc (.cells ROW 30)).drew).frozen? x = (w.drew.alloc (.cells ROW 30)).frozen? x := fun x => rfl
  have hF1 : ∀ x, (((w.alloc (.cells ROW 30)).drew.setCells w.heap.size i vs).drew).cell? x = ((w.drew.alloc (.cells ROW 30)).setCells w.heap.size i vs).cell? x := fun x => rfl
  have hF2 : ∀ x, (((w.alloc (.cells ROW 30)).drew.setCells w.heap.size i vs).drew).frozen? x = ((w.drew.alloc (.cells ROW 30)).setCells w.heap.size i vs).frozen? x := fun x => rfl
  have hw1 : IntKind.i64.wrap ((i : Int) + (m : Int)) = (i : Int) + (m : Int) := by rw [IntKind.wrap_i64]; omega
  have hb1 : (0 : Int) ≤ (i : Int) + (m : Int) := by omega
  have hin : i ≤ n := by omega
  have htn : ((i : Int) + (m : Int)).toNat = i + m := by omega
  have hb3 : (i : Int) ≤ (n : Int) := by omega
  have HRl := hid hRl
  have HRt := hid hRt
  clear hkk hik hold hROW hG hRl hRt
  go_enter Tryd.func29, Tryd.ntmps29
  go_wp2_with (first
    | (at_builtin; refine Lib.wpList_append_run _ rfl _ _ _ _ rfl _ _ rfl rfl _ _ (hrz _) ?_)
    | (at_builtin; refine Lib.wpList_copy_run _ rfl _ _ 25 25 rfl _ _ rfl rfl (hcpA _ hE1 hE2 _ _) ?_)
    | (at_builtin; refine Lib.wpList_copy_run _ rfl _ _ 25 25 rfl _ _ rfl rfl (hcpB _ (fun _ => rfl) (fun _ => rfl) _ _ _) ?_))
  go_region_law (refine step_copy rfl _ _ 25 25 rfl (.slice (some ⟨w.heap.size, i + m, none⟩) (n + m - (i + m)) (G - (i + m))) (.slice (some ⟨b, off + i, none⟩) (n - i) (c - i)) (by simp [Act.eval, Act.put]) (by simp [Act.eval, Act.put]) (hcpB _ hF1 hF2 3 (G - (i + m)) (c - i)) ?_)
  go_wp2
  go_ret
  exact ⟨G, ROW, hGn, HRt.out, HRl.out, rfl, rfl⟩

theorem But.setCells {b : Nat} : ∀ (vs : List Value) (o : Nat) (u w : World), But b u w → But b u (w.setCells b o vs)
  | [], _, _, _, h => h
  | v :: r, o, u, w, h => But.setCells r (o + 1) u (w.setCell ⟨b, o, none⟩ v) (h.setCell o v)

theorem but_drew {b : Nat} {u w : World} (h : But b u w) : But b u w.drew := ⟨h.os, h.tape, h.output, h.size, h.block⟩

theorem set_in {b o k : Nat} {vs : List Value} {w : World} {v : Value} (h : ∀ j, j < vs.length → (w.cell? ⟨b, o + j, none⟩).isSome = true) (hk : vs[k]? = some v) : (w.setCells b o vs).cell? ⟨b, o + k, none⟩ = some v := by
  obtain ⟨h1, h2⟩ := List.getElem?_eq_some_iff.1 hk
  rw [World.cell?_setCells_in b vs o w h k h1, h2]
theorem set_out {b o k : Nat} {vs : List Value} {w : World} (h : k < o ∨ o + vs.length ≤ k) : (w.setCells b o vs).cell? ⟨b, k, none⟩ = w.cell? ⟨b, k, none⟩ :=
  World.cell?_setCells_out b vs o w ⟨b, k, none⟩ (fun _ _ => h)

theorem row_dbl {W : World} {g i n : Nat} {Z : Nat → Int} (hi : i < n) (h1 : ∀ j, j < i → W.cell? ⟨g, j, none⟩ = some (.int .u64 (Z j))) (h2 : W.cell? ⟨g, i, none⟩ = some (.int .u64 (Z i))) (h3 : ∀ k, k < n - i → W.cell? ⟨g, i + 1 + k, none⟩ = some (.int .u64 (Z (i + k)))) : RowU W (some ⟨g, 0, none⟩) (n + 1) (dbl i Z) := by
  refine ⟨g, 0, fun _ => rfl, fun j hj => ?_⟩
  rw [Nat.zero_add]
  unfold dbl
  by_cases e1 : j < i
  · rw [if_pos (by omega)]; exact h1 j e1
  by_cases e2 : j = i
  · rw [if_pos (by omega), e2]; exact h2
  · rw [if_neg (by omega)]
    have := h3 (j - i - 1) (by omega)
    rw [show i + 1 + (j - i - 1) = j by omega, show i + (j - i - 1) = j - 1 by omega] at this
    exact this

/-- A list of the call's own, one letter of it written twice. -/
theorem insert_any {w : World} {g n cap i vb : Nat} {cur : Array Value} {Z : Nat → Int} (hg : w.heap[g]? = some (.cells cur 30 (0, 0))) (hsz : cur.size = cap) (hn : n ≤ cap) (hn60 : n ≤ 60) (hcap : cap ≤ 9223372036854775807) (hcell : ∀ j, j < n → w.cell? ⟨g, j, none⟩ = some (.int .u64 (Z j))) (hi : i < n)
    (hv : w.heap[vb]? = some (.cells #[.int .u64 (Z i)] 30 (0, 0))) (hne : vb ≠ g) :
    Calls Tryd.prog 29 #[.slice (some ⟨g, 0, none⟩) n cap, .int .i64 i, .slice (some ⟨vb, 0, none⟩) 1 1] w fun e w' => ∃ (y : Addr) (c : Nat), e = .returned (.slice (some y) (n + 1) c) ∧ n + 1 ≤ c ∧ RowU w' (some y) (n + 1) (dbl i Z) ∧ But g w w' ∧ (y.block = g ∨ w.heap.size ≤ y.block) := by
  have hcl : (valsU (lstU n Z)).length = n := by rw [valsU_len, lstU_len]
  have hat : ∀ j, j < n → (valsU (lstU n Z))[j]? = some (.int .u64 (Z j)) := fun j hj => by rw [valsU, List.getElem?_map, lstU_at _ _ _ hj]; rfl
  have hcs : ∀ j v, (valsU (lstU n Z))[j]? = some v → w.cell? ⟨g, 0 + j, none⟩ = some v := fun j v h => by
    have hj : j < n := by have := (List.getElem?_eq_some_iff.1 h).1; omega
    rw [hat j hj] at h
    cases h
    rw [Nat.zero_add]
    exact hcell j hj
  have hvs : ∀ j v, ([Value.int .u64 (Z i)] : List Value)[j]? = some v → w.cell? ⟨vb, 0 + j, none⟩ = some v := fun j v h => by
    match j, h with
    | 0, h =>
      cases h
      exact cell_of_cells hv rfl
    | j + 1, h => simp at h
  have h1v : ∀ v ∈ ([Value.int .u64 (Z i)] : List Value), v.oneCell' = true := fun v hv => by
    rw [List.mem_singleton.1 hv]; rfl
  have hvd : vb < w.heap.size := (Array.getElem?_eq_some_iff.1 hv).1
  have hdr : ∀ j, j < n - i → ((valsU (lstU n Z)).drop i)[j]? = some (.int .u64 (Z (i + j))) := fun j hj => by rw [List.getElem?_drop]; exact hat _ (by omega)
  have hdl : ((valsU (lstU n Z)).drop i).length = n - i := by rw [List.length_drop, hcl]
  by_cases hr : n + 1 ≤ cap
  · have hsp : ∀ j, j < n + 1 → (w.cell? ⟨g, 0 + j, none⟩).isSome = true := fun j hj => by
      simp only [World.cell?, hg, Nat.zero_add]
      rw [Array.getElem?_eq_getElem (by omega)]
      rfl
    refine (insert_room g 0 n cap i vb 0 1 1 (valsU (lstU n Z)) [.int .u64 (Z i)] w hi (by omega) hr hcap hne hcl rfl hcs hsp (fun j _ => fz_of hg _) hvs (valsU_one _) h1v 30 30 1 cap (by simp [World.shape?, hv]) (by simp [World.shape?, hg, hsz]) (by omega) (fz_of hv _) (fz_of hv _)).mono ?_
    rintro e w' ⟨rfl, rfl⟩
    simp only [Nat.zero_add] at hsp ⊢
    have hspd : ∀ k, k < ((valsU (lstU n Z)).drop i).length → (w.drew.cell? ⟨g, i + 1 + k, none⟩).isSome = true := fun k hk => hsp (i + 1 + k) (by omega)
    have hone : ∀ k, k < ([Value.int .u64 (Z i)] : List Value).length → ((w.drew.setCells g (i + 1) ((valsU (lstU n Z)).drop i)).cell? ⟨g, i + k, none⟩).isSome = true := fun k hk => by
      have hk0 : k = 0 := by simpa using hk
      rw [hk0]
      exact some_set g _ _ _ hspd _ (hsp i (by omega))
    refine ⟨⟨g, 0, none⟩, cap, rfl, hr, row_dbl hi (fun j hj => ?_) ?_ (fun k hk => ?_), But.setCells _ _ _ _ (But.setCells _ _ _ _ (but_drew (But.refl _ _))), Or.inl rfl⟩
    · rw [set_out (Or.inl hj), set_out (Or.inl (by omega))]
      exact hcell j (by omega)
    · exact set_in (k := 0) hone rfl
    · rw [set_out (Or.inr (by show i + 1 ≤ i + 1 + k; omega))]
      exact set_in hspd (hdr k hk)
  · refine (insert_grow g 0 n cap i vb 0 1 1 (valsU (lstU n Z)) [.int .u64 (Z i)] w hi (by omega) hn (by omega) (by omega) hcl rfl hcs hvs (valsU_one _) h1v).mono ?_
    rintro e w' ⟨G, R, hG, hRt, hRs, rfl, rfl⟩
    have hR : ∀ j, j < i → R[j]? = some (.int .u64 (Z j)) := fun j hj => by
      have h1 : (R.toList.take i)[j]? = some (.int .u64 (Z j)) := by
        rw [hRt, List.getElem?_take, if_pos hj]
        exact hat j (by omega)
      rw [List.getElem?_take, if_pos hj] at h1
      simpa using h1
    have hA : ∀ j, (w.alloc (.cells R 30)).drew.cell? ⟨w.heap.size, j, none⟩ = R[j]? := fun j => World.cell?_alloc_at (w := w) R _ w.heap.size j rfl
    have hAs : ∀ j, j < n + 1 → ((w.alloc (.cells R 30)).drew.cell? ⟨w.heap.size, j, none⟩).isSome = true := fun j hj => by
      rw [hA, Array.getElem?_eq_getElem (by omega)]; rfl
    have hone : ∀ k, k < ([Value.int .u64 (Z i)] : List Value).length → ((w.alloc (.cells R 30)).drew.cell? ⟨w.heap.size, i + k, none⟩).isSome = true := fun k hk => by
      have hk0 : k = 0 := by simpa using hk
      rw [hk0]
      exact hAs i (by omega)
    have hspd : ∀ k, k < ((valsU (lstU n Z)).drop i).length → (((w.alloc (.cells R 30)).drew.setCells w.heap.size i [.int .u64 (Z i)]).drew.cell? ⟨w.heap.size, i + 1 + k, none⟩).isSome = true := fun k hk =>
      some_set w.heap.size _ _ _ hone _ (hAs _ (by omega))
    refine ⟨⟨w.heap.size, 0, none⟩, G, rfl, hG, row_dbl hi (fun j hj => ?_) ?_ (fun k hk => ?_), ?_, Or.inr (Nat.le_refl _)⟩
    · rw [set_out (Or.inl (by omega))]
      show ((w.alloc (.cells R 30)).drew.setCells w.heap.size i [.int .u64 (Z i)]).cell? ⟨w.heap.size, j, none⟩ = _
      rw [set_out (Or.inl hj), hA]
      exact hR j hj
    · rw [set_out (Or.inl (by omega))]
      show ((w.alloc (.cells R 30)).drew.setCells w.heap.size i [.int .u64 (Z i)]).cell? ⟨w.heap.size, i + 0, none⟩ = _
      exact set_in hone rfl
    · exact set_in hspd (hdr k hk)
    · have h1 : But w.heap.size w ((((w.alloc (.cells R 30)).drew.setCells w.heap.size i [.int .u64 (Z i)]).drew).setCells w.heap.size (i + 1) ((valsU (lstU n Z)).drop i)) :=
        But.setCells _ _ _ _ (but_drew (But.setCells _ _ _ _ (but_drew ((But.refl _ _).alloc _))))
      exact ⟨h1.os, h1.tape, h1.output, h1.size, fun k hk _ => h1.block k hk (by omega)⟩

end Go.Proofs.YtejombhfkobcbaaDoor
