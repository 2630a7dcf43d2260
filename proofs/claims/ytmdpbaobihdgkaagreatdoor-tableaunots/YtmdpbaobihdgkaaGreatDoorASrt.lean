
import Derived.Sort.OwnSortedInts
import Derived.Test.YtmdpbaobihdgkaaGreatDoorAItdJ
/- slices.SortFunc of some states by their places in a list: they come in the list's order. -/
namespace Go.Proofs.YtmdpbaobihdgkaaGreatDoor
open Go.RowKit Go.Shelf Go.Lib Go.Sort
theorem srt_gb {α : Type} [Inhabited α] {enc : α → Value} {w : World} {g off n : Nat} {os : Array Obj} (d : Array α) : w.grownBy (sortWorld enc w g off n d os) (some g) := by
 refine ⟨rfl, rfl, rfl, by simp [sortWorld], fun k hk hne => ?_⟩
 unfold sortWorld
 rw [heap_grow_old _ _ (by simpa using hk)]
 have : g ≠ k := fun e => hne (by rw [e])
 simp [putRow, mapBlock, Sort.ahead, Array.getElem?_modify, this]
theorem srt_pure {m : Nat} (S : List (Fin (m + 1))) (hn : S.Nodup) : S.mergeSort (fun x y => !decide (y < x)) = (List.finRange (m + 1)).filter (fun p => decide (p ∈ S)) := by
 refine List.Perm.eq_of_pairwise (le := fun x y => (!decide (y < x)) = true) ?_ ?_ ?_ ?_
 ·intro a b _ _ h1 h2
  simp at h1 h2
  exact Fin.le_antisymm h1 h2
 ·refine List.pairwise_mergeSort ?_ ?_ _
  ·intro a b c h1 h2
   simp at *
   exact Fin.le_trans h1 h2
  ·intro a b
   simp
   exact Fin.le_total _ _
 ·refine List.Pairwise.filter _ ?_
  rw [List.pairwise_iff_getElem]
  intro i j hi hj hij
  simp [List.getElem_finRange]
  omega
 ·refine (List.mergeSort_perm _ _).trans ((List.perm_ext_iff_of_nodup hn (List.Pairwise.filter _ (List.nodup_finRange _))).2 (fun a => ?_))
  simp
theorem finRange_map (l : List Nat) : (List.finRange l.length).map (fun p => l.getD p.1 0) = l := by
 refine List.ext_getElem (by simp) (fun i h1 h2 => ?_)
 simp [List.getD_eq_getElem?_getD]
theorem nodup_map {α β : Type} {f : α → β} : ∀ {l : List α}, l.Nodup → (∀ x ∈ l, ∀ y ∈ l, f x = f y → x = y) → (l.map f).Nodup
 | [], _, _ => List.nodup_nil
 | a :: l, h, hf => by
  obtain ⟨h1, h2⟩ := List.nodup_cons.1 h
  rw [List.map_cons, List.nodup_cons]
  refine ⟨fun hm => ?_, nodup_map h2 (fun x hx y hy => hf x (List.mem_cons_of_mem _ hx) y (List.mem_cons_of_mem _ hy))⟩
  obtain ⟨b, hb, e⟩ := List.mem_map.1 hm
  have := hf b (List.mem_cons_of_mem _ hb) a List.mem_cons_self e
  exact h1 (by rw [← this]; exact hb)
def posF (m : Nat) (l : List Nat) (s : Nat) : Fin (m + 1) := ⟨min (ix s l) m, by omega⟩
theorem posF_at {m : Nat} {l : List Nat} (hm : l.length = m + 1) {s : Nat} (h : s ∈ l) : l.getD (posF m l s).1 0 = s ∧ (posF m l s).1 = ix s l := by
 have h1 := ix_lt h
 have e : (posF m l s).1 = ix s l := by show min (ix s l) m = _; omega
 rw [e, List.getD_eq_getElem?_getD, ix_at h]
 exact ⟨rfl, rfl⟩
theorem srt_list {m : Nat} {l : List Nat} (hm : l.length = m + 1) (hnd : l.Nodup) {T : List Nat} {ok : Nat → Bool} (hT : T.Nodup) (hok : ∀ s, s ∈ T ↔ s ∈ l ∧ ok s = true) :
  ((T.map (posF m l)).mergeSort (fun x y => !decide (y < x))).map (fun p => l.getD p.1 0) = l.filter ok := by
 have hnm : (T.map (posF m l)).Nodup := nodup_map hT (fun x hx y hy e => by
  have h1 := (posF_at hm ((hok x).1 hx).1).1
  have h2 := (posF_at hm ((hok y).1 hy).1).1
  rw [← h1, e, h2])
 rw [srt_pure _ hnm]
 have e : ∀ p : Fin (m + 1), decide (p ∈ T.map (posF m l)) = ok (l.getD p.1 0) := fun p => by
  have hp : p.1 < l.length := by omega
  have hx : l[p.1]? = some (l.getD p.1 0) := by rw [List.getD_eq_getElem?_getD, List.getElem?_eq_getElem hp]; rfl
  have hmem : l.getD p.1 0 ∈ l := List.mem_of_getElem? hx
  have hix : ix (l.getD p.1 0) l = p.1 := at_ix hnd hx
  cases hk : ok (l.getD p.1 0)
  ·rw [decide_eq_false_iff_not]
   intro hp2
   obtain ⟨s, hs, rfl⟩ := List.mem_map.1 hp2
   rw [(posF_at hm ((hok s).1 hs).1).1] at hk
   rw [((hok s).1 hs).2] at hk
   cases hk
  ·rw [decide_eq_true_eq]
   refine List.mem_map.2 ⟨_, (hok _).2 ⟨hmem, hk⟩, Fin.ext ?_⟩
   rw [(posF_at hm hmem).2, hix]
 have h2 : (List.finRange (m + 1)).filter (fun p => decide (p ∈ T.map (posF m l))) = (List.finRange (m + 1)).filter (fun p => ok (l.getD p.1 0)) := List.filter_congr (fun p _ => e p)
 rw [h2]
 have h3 : (List.finRange (m + 1)).map (fun p => l.getD p.1 0) = l := by
  have := finRange_map l
  rw [hm] at this
  exact this
 conv => rhs; rw [← h3, List.filter_map]
 rfl
def cfP {m : Nat} (x y : Fin (m + 1)) : Int := (x.1 : Int) - (y.1 : Int)
theorem ltP {m : Nat} (x y : Fin (m + 1)) : ltOf cfP x y = decide (x < y) := by
 unfold ltOf cfP
 rw [decide_eq_decide, Fin.lt_def]
 omega
theorem swoP {m : Nat} : SWO (ltOf (cfP (m := m))) where
 irrefl x := by rw [ltP]; simp
 trans x y z h1 h2 := by rw [ltP] at *; simp at *; exact Fin.lt_trans h1 h2
 ntrans x y z h1 h2 := by rw [ltP] at *; simp at *; exact Fin.le_trans h2 h1
theorem totP {m : Nat} (x y : Fin (m + 1)) (h1 : ltOf cfP x y = false) (h2 : ltOf cfP y x = false) : x = y := by rw [ltP] at *; simp at *; exact Fin.le_antisymm h2 h1
theorem cmp79 (Bp x y px py : Nat) (w : World) (hx : x < 2048) (hy : y < 2048) (h1 : w.cell? ⟨Bp, x, none⟩ = some (.int .i64 (px : Nat))) (h2 : w.cell? ⟨Bp, y, none⟩ = some (.int .i64 (py : Nat))) (hpx : px < 4096) (hpy : py < 4096) :
  Calls Tryz.prog 83 #[.int .i64 (x : Nat), .int .i64 (y : Nat), .pointer (some ⟨Bp, 0, none⟩)] w fun e w' => e = .returned (.int .i64 ((px : Int) - (py : Int))) ∧ ∃ q, w' = w.drewN q := by
 go_enter Tryz.func83, Tryz.ntmps83
 go_wp2
 go_region
 go_wp2
 go_ret
 exact ⟨rfl, 1, rfl⟩
theorem sort78 (l T : List Nat) (ok : Nat → Bool) (Bp : Nat) (a : Option Addr) (cap base : Nat) (w : World) (hnd : l.Nodup) (hl : ∀ s ∈ l, s < 2048) (hlen : l.length ≤ 2048) (hT : T.Nodup) (hok : ∀ s, s ∈ T ↔ s ∈ l ∧ ok s = true)
  (hown : w.ownsRow base 3 1 (.slice a (cs T).length cap) (cs T).length (vals (cs T))) (hp : ∀ i, i < l.length → w.cell? ⟨Bp, l.getD i 0, none⟩ = some (.int .i64 (i : Nat))) (hne : ∀ p, a = some p → p.block ≠ Bp) :
  Calls Tryz.prog 82 #[.slice a (cs T).length cap, .func (.func 83) #[] #[.pointer (some ⟨Bp, 0, none⟩)]] w fun e w' => (∃ v, e = .returned v) ∧ Hid ((l.filter ok).length = T.length ∧ w.grownBy w' (a.map fun p => p.block) ∧ (∀ p, a = some p → ∀ i, i < T.length → w'.cell? ⟨p.block, i, none⟩ = some (.int .i64 (((l.filter ok).getD i 0 : Nat) : Int)))) := by
 have hTl : (l.filter ok).length = T.length := by
  refine (List.Perm.length_eq ((List.perm_ext_iff_of_nodup hT (List.Pairwise.filter _ hnd)).2 (fun s => ?_))).symm
  rw [hok, List.mem_filter]
 by_cases h0 : T.length = 0
 ·have hS := AnyF.slices_SortFunc_none (P := Tryz.prog) (ρ := Tryz.sortL_ren) { Tryz.sortL with } a cap (.func (.func 83) #[] #[.pointer (some ⟨Bp, 0, none⟩)]) w
  change Calls Tryz.prog 82 _ _ _ at hS
  rw [show (cs T).length = 0 by rw [cs_len]; exact h0]
  refine hS.mono ?_
  rintro e w' ⟨rfl, rfl⟩
  exact ⟨⟨_, rfl⟩, hid ⟨hTl, ⟨rfl, rfl, rfl, Nat.le_refl _, fun _ _ _ => rfl⟩, fun p _ i hi => by omega⟩⟩
 ·obtain ⟨s0, hs0⟩ := List.exists_mem_of_length_pos (show 0 < T.length by omega)
  have hlp := List.length_pos_of_mem ((hok s0).1 hs0).1
  obtain ⟨m, hm⟩ : ∃ m, l.length = m + 1 := ⟨l.length - 1, by omega⟩
  rcases hown.2 with ⟨e, h1⟩ | ⟨g, cap', cur, e, hb, hg, h3⟩
  ·rw [cs_len] at h1; exact absurd h1 h0
  ·cases e
   have hcell : ∀ i, i < T.length → w.cell? ⟨g, 0 + i, none⟩ = some (.int .i64 ((T.getD i 0 : Nat) : Int)) := fun i hi => by
    have := hown.cells (g := g) rfl i (.int .i64 ((T.getD i 0 : Nat) : Int)) (by simp [vals, cs, List.getD_eq_getElem?_getD, List.getElem?_eq_getElem hi])
    rwa [Addr.add_mid] at this
   obtain ⟨enc, henc⟩ : ∃ enc : Fin (m + 1) → Value, enc = fun p => .int .i64 ((l.getD p.1 0 : Nat) : Int) := ⟨_, rfl⟩
   have hbg : g < w.heap.size := (jq4.1 hg).1
   have hgne : g ≠ Bp := hne _ rfl
   have hsz : (T.map (posF m l)).toArray.size = T.length := by simp
   have hH : Holds enc w g 0 (T.map (posF m l)).toArray := fun j hj => by
    rw [hsz] at hj
    refine ⟨?_, by unfold World.frozen?; rw [hg]; simp⟩
    rw [hcell j hj, henc]
    have e1 : (T.map (posF m l)).toArray[j]! = posF m l T[j] := by simp [hj]
    have e2 := (posF_at hm ((hok T[j]).1 (List.getElem_mem hj)).1).1
    dsimp only
    rw [e1, e2, List.getD_eq_getElem?_getD, List.getElem?_eq_getElem hj]
    rfl
   have eg : ∀ args w, (callFunc 83 args).run Tryz.prog w = .ok (.enter 83 args) w := enters_of Tryz.func83 (by kernel_rfl) rfl
   have hcmp : CmpReads Tryz.prog 83 #[.pointer (some ⟨Bp, 0, none⟩)] enc cfP g 0 (T.map (posF m l)).toArray.size w := fun q os dk hd x y => by
    have hx : x.1 < l.length := by omega
    have hy : y.1 < l.length := by omega
    have hmx : l.getD x.1 0 ∈ l := by rw [List.getD_eq_getElem?_getD, List.getElem?_eq_getElem hx]; exact List.getElem_mem hx
    have hmy : l.getD y.1 0 ∈ l := by rw [List.getD_eq_getElem?_getD, List.getElem?_eq_getElem hy]; exact List.getElem_mem hy
    have hgb := srt_gb (enc := enc) (w := w) (g := g) (off := 0) (n := q) (os := os) dk
    have k1 := (World.cell?_of_block (w := w) (hgb.block Bp (World.block_lt_of_cell? _ _ (hp x.1 hx)) (fun e => hgne (Option.some.inj e).symm))).trans (hp x.1 hx)
    have k2 := (World.cell?_of_block (w := w) (hgb.block Bp (World.block_lt_of_cell? _ _ (hp y.1 hy)) (fun e => hgne (Option.some.inj e).symm))).trans (hp y.1 hy)
    have := cmp79 Bp (l.getD x.1 0) (l.getD y.1 0) x.1 y.1 _ (hl _ hmx) (hl _ hmy) k1 k2 (by omega) (by omega)
    rw [henc]
    rw [henc] at this
    exact this
   have hS := Any.slices_SortFunc_total Tryz.sortL enc (fun p => by rw [henc]; rfl) cfP swoP 83 #[.pointer (some ⟨Bp, 0, none⟩)] g 0 cap (T.map (posF m l)).toArray w eg hcmp.lays hH hbg (by rw [hsz]; have := (List.length_filter_le ok l); omega) totP
   change Calls Tryz.prog 82 _ _ _ at hS
   rw [hsz] at hS
   rw [cs_len]
   refine hS.mono ?_
   rintro e w' ⟨rfl, q, os, rfl⟩
   have hms : ((T.map (posF m l)).toArray.toList.mergeSort fun x y => !ltOf cfP y x) = (T.map (posF m l)).mergeSort (fun x y => !decide (y < x)) := by
    simp only [ltP]
   have hmsz : ((T.map (posF m l)).toArray.toList.mergeSort fun x y => !ltOf cfP y x).toArray.size = (T.map (posF m l)).toArray.size := by simp
   refine ⟨⟨_, rfl⟩, hid ⟨hTl, srt_gb _, fun p hp2 i hi => ?_⟩⟩
   cases hp2
   have hh := holds_sortWorld enc w g 0 q _ _ os hbg hH hmsz i (by rw [hmsz, hsz]; exact hi)
   rw [Nat.zero_add] at hh
   rw [hh.1, henc]
   have hsl := srt_list hm hnd hT hok
   have hlen2 : ((T.map (posF m l)).mergeSort (fun x y => !decide (y < x))).length = T.length := by simp
   dsimp only
   rw [hms]
   congr 2
   have e3 : (l.filter ok).getD i 0 = l.getD (((T.map (posF m l)).mergeSort (fun x y => !decide (y < x)))[i]'(by omega)).1 0 := by
    rw [← hsl, List.getD_eq_getElem?_getD, List.getElem?_map, List.getElem?_eq_getElem (by omega)]
    rfl
   rw [e3]
   congr 2
   simp [hlen2, hi]
end Go.Proofs.YtmdpbaobihdgkaaGreatDoor
