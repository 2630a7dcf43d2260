/- readLine, read. -/
import Derived.Test.YtnpdkpbhkjnbhaaDoorDft
namespace Go.Proofs.YtnpdkpbhkjnbhaaDoor
open Go.RowKit

theorem Df.later {w u : World} {B d : Nat} {x : Dft} {vn vf : Value} (h : Df w B d x vn vf) (hb : Below w.heap.size w u) : Df u B d x vn vf :=
  ⟨h.base, (hb.block d (Array.getElem?_eq_some_iff.1 h.blk).1).trans h.blk, below_ownsRow h.nds hb, below_ownsRow h.fls hb⟩

theorem owns_form {w : World} {B e s n : Nat} {v : Value} {xs : List Value} (h : w.ownsRow B e s v n xs) : ∃ a c, v = .slice a n c ∧ n ≤ c := by
  rcases h.2 with ⟨rfl, h0⟩ | ⟨g, cap, cur, rfl, _, _, h4, _⟩
  · exact ⟨none, 0, by rw [h0], by omega⟩
  · exact ⟨_, _, rfl, h4⟩

/-- What the package's variables hold. -/
structure Gl (w : World) : Prop where
  kws : KwAt w
  max : ∃ m, w.cell? ⟨1, 0, none⟩ = some (.int .i64 m)

theorem Gl.below {w u : World} {B : Nat} (h : Gl w) (hb : Below B w u) (hB : 2 ≤ B) : Gl u := by
  refine ⟨h.kws.below hb (by omega), ?_⟩
  obtain ⟨m, hm⟩ := h.max
  exact ⟨m, (hb.cell (p := ⟨1, 0, none⟩) (by show 1 < B; omega)).trans hm⟩

theorem map_byt (ws : List ByteArray) (l : List (List UInt8)) (h : ws.map (·.data.toList) = l) : ws = l.map byt := by
  rw [← h, List.map_map]
  have e : (byt ∘ fun x : ByteArray => x.data.toList) = id := by funext x; rfl
  rw [e, List.map_id]

theorem split_ws (l : List UInt8) : Lib.splitB ⟨#[32]⟩ 0 (Lib.countB (byt l) ⟨#[32]⟩) (byt l) = (wds l).map byt ∧ Lib.countB (byt l) ⟨#[32]⟩ + 1 = ((wds l).map byt).length := by
  have h := split_all l
  have e : (byt l).data.toList = l := data_byt l
  constructor
  · refine map_byt _ _ ?_
    rw [Lib.splitB_data]
    show Lib.splitK [32] 0 (Lib.count (byt l).data.toList [32]) (byt l).data.toList = wds l
    rw [e]
    exact h.1
  · rw [List.length_map]
    show Lib.count (byt l).data.toList [32] + 1 = _
    rw [e]
    exact h.2

theorem splitCall (l : List UInt8) (w : World) (hg : Gl w) (hl : l.length ≤ 4096) (ws : List ByteArray) (hw : ws = (wds l).map byt) :
    Calls Tryd.prog 48 #[.string (byt l), .string ⟨#[32]⟩] w fun e w' => e = .returned (.slice (some ⟨w.heap.size, 0, none⟩) ws.length ws.length) ∧ w' = w.alloc (.cells (ws.map Value.string).toArray 9) := by
  obtain ⟨m, hm⟩ := hg.max
  have h := split_ws l
  refine (Tryd.strings_Split (byt l) ⟨#[32]⟩ m w (by show l.toArray.size < _; simp; omega) hm (by decide)).mono ?_
  rintro e w' ⟨he, hw'⟩
  rw [h.1] at hw'
  rw [h.2] at he
  rw [hw]
  exact ⟨he, hw'⟩

theorem wds_mem_len {l : List UInt8} : ∀ x ∈ wds l, x.length ≤ l.length := by
  induction l with
  | nil => intro x hx; simp [wds] at hx; simp [hx]
  | cons b l ih =>
    intro x hx
    rw [wds] at hx
    split at hx
    · rcases List.mem_cons.1 hx with rfl | hx
      · simp
      · have := ih x hx; simp; omega
    · split at hx
      · rename_i h; exact absurd h (wds_ne l)
      · rename_i y r h
        rcases List.mem_cons.1 hx with rfl | hx
        · have := ih y (by rw [h]; simp); simp; omega
        · have := ih x (by rw [h]; simp [hx]); simp; omega

theorem flow_toList : flowWd.toList = [102, 108, 111, 119] := by simp [flowWd, ByteArray.toList_eq]

theorem dfOut_from {w u w' : World} {B d : Nat} {y : Option Dft} {e : Ending} (h : DfOut u B d y e w') (hb : Below B w u) : DfOut w B d y e w' := ⟨hb.trans h.1, h.2⟩

set_option maxRecDepth 20000 in
set_option maxHeartbeats 4000000 in
theorem readLine_any {w : World} {B d : Nat} {x : Dft} {vn vf : Value} (l : List UInt8) (h : Df w B d x vn vf) (hBw : B ≤ w.heap.size) (hB2 : 2 ≤ B) (hg : Gl w) (hl : l.length ≤ 4096) (hx1 : x.1.length ≤ 4096) (hx2 : x.2.length ≤ 4096) (y : Option Dft) (hy : y = rdL x l) :
    Calls Tryd.prog 37 #[.pointer (some ⟨d, 0, none⟩), .string (byt l)] w fun e w' => DfOut w B d y e w' := by
  obtain ⟨ws, hws⟩ : ∃ ws, ws = (wds l).map byt := ⟨_, rfl⟩
  have HY : Hid (y = rdW x ws) := by rw [hws]; exact hy
  have HWl : Hid (∀ b ∈ ws, b.size ≤ 4096) := by
    intro b hb
    rw [hws] at hb
    obtain ⟨z, hz, rfl⟩ := List.mem_map.1 hb
    have := wds_mem_len z hz
    show z.toArray.size ≤ 4096
    simp
    omega
  have C1 : Hid (Calls Tryd.prog 48 #[.string (byt l), .string ⟨#[32]⟩] w fun e w' => e = .returned (.slice (some ⟨w.heap.size, 0, none⟩) ws.length ws.length) ∧ w' = w.alloc (.cells (ws.map Value.string).toArray 9)) := splitCall l w hg hl ws hws
  generalize byt l = bl at *
  have H : Hid (Df w B d x vn vf) := h
  have HG : Hid (Gl w) := hg
  have HX : Hid (x.1.length ≤ 4096 ∧ x.2.length ≤ 4096) := ⟨hx1, hx2⟩
  obtain ⟨fa, fc, hvf, _⟩ := owns_form h.fls
  subst hvf
  have hcf : w.cell? ⟨d, 1, none⟩ = some (.slice fa x.2.length fc) := cell_of_cells h.blk rfl
  clear hy hws h hg hl hx1 hx2
  obtain ⟨W, eW⟩ : ∃ v, v = w.alloc (.cells (ws.map Value.string).toArray 9) := ⟨_, rfl⟩
  have HW : Hid (Below w.heap.size w W ∧ W.heap[w.heap.size]? = some (.cells (ws.map Value.string).toArray 9 (0, 0))) := by subst eW; exact ⟨box_below _ _, Go.Deep.blk_alloc_new _ _⟩
  have hcW : W.cell? ⟨d, 1, none⟩ = some (.slice fa x.2.length fc) := (HW.out.1.cell (p := ⟨d, 1, none⟩) (World.block_lt_of_cell? _ _ hcf)).trans hcf
  rw [← eW] at C1
  clear eW hcf
  by_cases h2 : ws.length = 2
  · obtain ⟨a, b, rfl⟩ : ∃ a b, ws = [a, b] := by
      match ws, h2 with
      | [a, b], _ => exact ⟨a, b, rfl⟩
    have hw0 : W.cell? ⟨w.heap.size, 0, none⟩ = some (.string a) := cell_of_cells HW.out.2 rfl
    have hw1 : W.cell? ⟨w.heap.size, 1, none⟩ = some (.string b) := cell_of_cells HW.out.2 rfl
    have C1' : Hid (Calls Tryd.prog 48 #[.string bl, .string ⟨#[32]⟩] w fun e w' => e = .returned (.slice (some ⟨w.heap.size, 0, none⟩) 2 2) ∧ w' = W) := C1.out
    clear C1 h2
    by_cases hf0 : x.2 = []
    · have CN : Hid (∀ u, Below W.heap.size W u → Calls Tryd.prog 49 #[.pointer (some ⟨d, 0, none⟩), .string a, .string b] u fun e w' => DfOut w B d y e w') := fun u hu => by
        have hu' : Below w.heap.size w u := HW.out.1.trans (hu.mono HW.out.1.size)
        refine (readNode_any a b (H.out.later hu') (by have := hu'.size; omega) HX.out.1 (HG.out.below (hu'.mono hBw) hB2).kws (HWl.out b (by simp)) y ?_).mono ?_
        · rw [HY.out]
          simp only [rdW, hf0, true_and]
        · rintro e w' hd
          exact dfOut_from hd (hu'.mono hBw)
      have hl0 : x.2.length = 0 := by rw [hf0]; rfl
      rw [hl0] at hcW
      clear hf0 hl0 HX HWl HY
      go_enter Tryd.func37, Tryd.ntmps37
      go_wp2_with fail
      refine C1'.out.mono ?_
      rintro e w1 ⟨rfl, e1⟩
      rw [e1]
      clear e1 C1'
      go_wp2
      go_region_law
        (first
          | (go_simp; go_at_call 49; refine (CN.out _ ?_).mono ?_; (exact below_drew_iff.2 (Below.refl _ _)); rintro e w5 ⟨hb5, hd5⟩; have H5 : Hid (DfOut w B d y e w5) := ⟨hb5, hd5⟩; obtain ⟨q, rfl⟩ : ∃ q, e = .returned (.bool q) := (by rcases hd5 with ⟨_, hh⟩ | ⟨_, _, hh, _⟩; (exact ⟨_, hh⟩); (exact ⟨_, hh⟩)); clear hd5 hb5; dsimp only))
      all_goals
        go_wp2
        go_ret
        exact H5.out
    · have HN : Hid (y = none) := by
        show _ = _
        rw [HY.out]
        simp only [rdW]
        rw [if_neg (fun hh => hf0 hh.1)]
      have hl0 : ((x.2.length : Int) == 0) = false := by
        rw [beq_eq_false_iff_ne]
        have := List.length_pos_iff.2 hf0
        omega
      have HF : Hid (DfOut w B d y (.returned (.bool false)) W) := ⟨HW.out.1.mono hBw, Or.inl ⟨HN.out, rfl⟩⟩
      clear hf0 HX HWl HY
      generalize x.2.length = n2 at *
      go_enter Tryd.func37, Tryd.ntmps37
      go_wp2_with fail
      refine C1'.out.mono ?_
      rintro e w1 ⟨rfl, e1⟩
      rw [e1]
      clear e1 C1'
      go_wp2
      go_quiet (fail)
      go_wp2
      go_ret
      exact ⟨below_drewn HF.out.1 _, Or.inl ⟨HN.out, rfl⟩⟩
  · by_cases h3 : ws.length = 3
    · obtain ⟨a, b, c, rfl⟩ : ∃ a b c, ws = [a, b, c] := by
        match ws, h3 with
        | [a, b, c], _ => exact ⟨a, b, c, rfl⟩
      have hw0 : W.cell? ⟨w.heap.size, 0, none⟩ = some (.string a) := cell_of_cells HW.out.2 rfl
      have hw1 : W.cell? ⟨w.heap.size, 1, none⟩ = some (.string b) := cell_of_cells HW.out.2 rfl
      have hw2 : W.cell? ⟨w.heap.size, 2, none⟩ = some (.string c) := cell_of_cells HW.out.2 rfl
      have C1' : Hid (Calls Tryd.prog 48 #[.string bl, .string ⟨#[32]⟩] w fun e w' => e = .returned (.slice (some ⟨w.heap.size, 0, none⟩) 3 3) ∧ w' = W) := C1.out
      clear C1 h2 h3 hcW
      by_cases hf : a = flowWd
      · have CN : Hid (∀ u, Below W.heap.size W u → Calls Tryd.prog 50 #[.pointer (some ⟨d, 0, none⟩), .string b, .string c] u fun e w' => DfOut w B d y e w') := fun u hu => by
          have hu' : Below w.heap.size w u := HW.out.1.trans (hu.mono HW.out.1.size)
          refine (readFlow_any b c (H.out.later hu') (by have := hu'.size; omega) HX.out.2 y ?_).mono ?_
          · rw [HY.out]
            simp only [rdW, hf, true_and]
          · rintro e w' hd
            exact dfOut_from hd (hu'.mono hBw)
        have hq : (a.toList == [102, 108, 111, 119]) = true := by
          rw [hf]
          simp [flowWd, ByteArray.toList_eq]
        clear hf HX HWl HY
        go_enter Tryd.func37, Tryd.ntmps37
        go_wp2_with fail
        refine C1'.out.mono ?_
        rintro e w1 ⟨rfl, e1⟩
        rw [e1]
        clear e1 C1'
        go_wp2
        go_region_law
          (first
            | (go_simp; go_at_call 50; refine (CN.out _ ?_).mono ?_; (exact below_drew_iff.2 (Below.refl _ _)); rintro e w5 ⟨hb5, hd5⟩; have H5 : Hid (DfOut w B d y e w5) := ⟨hb5, hd5⟩; obtain ⟨q, rfl⟩ : ∃ q, e = .returned (.bool q) := (by rcases hd5 with ⟨_, hh⟩ | ⟨_, _, hh, _⟩; (exact ⟨_, hh⟩); (exact ⟨_, hh⟩)); clear hd5 hb5; dsimp only))
        all_goals
          go_wp2
          go_ret
          exact H5.out
      · have HN : Hid (y = none) := by
          show _ = _
          rw [HY.out]
          simp only [rdW]
          rw [if_neg (fun hh => hf hh.1)]
        have hq : (a.toList == [102, 108, 111, 119]) = false := by
          cases e : (a.toList == [102, 108, 111, 119])
          · rfl
          · have e' : (a.toList == flowWd.toList) = true := by rw [flow_toList]; exact e
            exact absurd (toList_inj.1 e') hf
        have HF : Hid (Below B w W) := HW.out.1.mono hBw
        clear hf HX HWl HY
        go_enter Tryd.func37, Tryd.ntmps37
        go_wp2_with fail
        refine C1'.out.mono ?_
        rintro e w1 ⟨rfl, e1⟩
        rw [e1]
        clear e1 C1'
        go_wp2
        go_quiet (fail)
        go_wp2
        go_ret
        exact ⟨below_drewn HF.out _, Or.inl ⟨HN.out, rfl⟩⟩
    · have HN : Hid (y = none) := by
        show _ = _
        rw [HY.out]
        match ws, h2, h3 with
        | [], _, _ => rfl
        | [_], _, _ => rfl
        | [_, _], h, _ => exact absurd rfl h
        | [_, _, _], _, h => exact absurd rfl h
        | _ :: _ :: _ :: _ :: _, _, _ => rfl
      have q2 : ((ws.length : Int) == 2) = false := by rw [beq_eq_false_iff_ne]; omega
      have q3 : ((ws.length : Int) == 3) = false := by rw [beq_eq_false_iff_ne]; omega
      have HF : Hid (Below B w W) := HW.out.1.mono hBw
      clear h2 h3 HX HWl HY hcW HW
      generalize ws.length = n at *
      go_enter Tryd.func37, Tryd.ntmps37
      go_wp2_with fail
      refine C1.out.mono ?_
      rintro e w1 ⟨rfl, e1⟩
      rw [e1]
      clear e1 C1
      go_wp2
      go_ret
      exact ⟨HF.out, Or.inl ⟨HN.out, rfl⟩⟩

end Go.Proofs.YtnpdkpbhkjnbhaaDoor
