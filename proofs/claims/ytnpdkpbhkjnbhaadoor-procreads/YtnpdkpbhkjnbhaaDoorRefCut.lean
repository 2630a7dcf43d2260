/- The document's Cut. -/
import Derived.Test.YtnpdkpbhkjnbhaaDoorJoin
namespace Go.Proofs.YtnpdkpbhkjnbhaaDoor
open Go.RowKit

theorem Tryd.info9 : (Tryd.prog.info? 9).map (fun i => (i.zero, i.size, i.bytes)) = some (some (.string ⟨#[]⟩), 1, 16) := by kernel_rfl

theorem wds_sp : ∀ (m : List UInt8), wds (m ++ [32]) = wds m ++ [[]]
  | [] => by simp [wds]
  | b :: m => by
    have ih := wds_sp m
    rw [List.cons_append, wds, wds, ih]
    by_cases h : b = 32
    · rw [if_pos h, if_pos h]; rfl
    · rw [if_neg h, if_neg h]
      cases hw : wds m with
      | nil => exact absurd hw (wds_ne m)
      | cons x r => rfl

/-- The last piece is longer by c. -/
def ext1 (c : UInt8) : List (List UInt8) → List (List UInt8)
  | [] => []
  | [x] => [x ++ [c]]
  | x :: y :: r => x :: ext1 c (y :: r)

theorem wds_in {c : UInt8} (hc : c ≠ 32) : ∀ (m : List UInt8), wds (m ++ [c]) = ext1 c (wds m)
  | [] => by simp [wds, ext1, hc]
  | b :: m => by
    have ih := wds_in hc m
    rw [List.cons_append, wds, wds, ih]
    cases hw : wds m with
    | nil => exact absurd hw (wds_ne m)
    | cons x r =>
      by_cases h : b = 32
      · rw [if_pos h, if_pos h]; rfl
      · rw [if_neg h, if_neg h]
        cases r with
        | nil => rfl
        | cons y r => rfl

theorem ext1_snoc (c : UInt8) : ∀ (l : List (List UInt8)) (x : List UInt8), ext1 c (l ++ [x]) = l ++ [x ++ [c]]
  | [], _ => rfl
  | [a], x => rfl
  | a :: b :: l, x => by
    have := ext1_snoc c (b :: l) x
    simp only [List.cons_append] at this ⊢
    rw [ext1, this]

def strs (l : List (List UInt8)) : List Value := l.map fun x => .string (byt x)

theorem strs_snoc (l : List (List UInt8)) (x : List UInt8) : strs (l ++ [x]) = strs l ++ [.string (byt x)] := by simp [strs]

/-- The last cell of a row is written over. -/
theorem owns_last {w : World} {B e g n cap : Nat} {xs : List Value} {a b : Value} (h : w.ownsRow B e 1 (.slice (some ⟨g, 0, none⟩) (n + 1) cap) (n + 1) (xs ++ [a])) :
    w.cell? ⟨g, n, none⟩ = some a ∧ w.frozen? ⟨g, n, none⟩ = false ∧ (w.setCell ⟨g, n, none⟩ b).ownsRow B e 1 (.slice (some ⟨g, 0, none⟩) (n + 1) cap) (n + 1) (xs ++ [b]) := by
  have hl : xs.length = n := by have := h.1; simp at this; exact this
  rcases h.2 with ⟨h1, _⟩ | ⟨g', cap', cur, h1, h2, h3, h4, h5, h6, h7⟩
  · cases h1
  · cases h1
    have hc : cur[n]? = some a := by
      have := congrArg (fun z : List Value => z[n]?) h7
      simp only [Nat.mul_one] at this
      rw [List.getElem?_take, if_pos (by omega), List.getElem?_append_right (by omega), hl, Nat.sub_self] at this
      simpa using this
    refine ⟨cell_of_cells h3 hc, by simp [World.frozen?, h3], by simp [hl], Or.inr ⟨g, cap, cur.setIfInBounds n b, rfl, h2, blk_setCell_self h3, h4, h5, by simpa using h6, ?_⟩⟩
    simp only [Nat.mul_one] at h7 ⊢
    rw [Array.toList_setIfInBounds, List.take_set, h7, ← hl, List.set_append_right _ _ (Nat.le_refl _), Nat.sub_self]
    rfl

theorem str_step {w0 wr w1 : World} {v v' : Value} {l : List (List UInt8)} {n : Nat} {x : List UInt8} {o : Obj} (hb : Below w0.heap.size w0 wr) (ho : wr.ownsRow w0.heap.size 9 1 v n (strs l))
    (hown : w1.ownsRow w0.heap.size 9 1 v' (n + 1) (strs l ++ [.string (byt x)])) (hgrow : (wr.alloc o).grownBy w1 v.ownBlock) :
    (∃ g c, v' = .slice (some ⟨g, 0, none⟩) (n + 1) c) ∧ Hid (Below w0.heap.size w0 w1 ∧ w1.ownsRow w0.heap.size 9 1 v' (n + 1) (strs (l ++ [x]))) := by
  refine ⟨?_, hid ⟨?_, ?_⟩⟩
  · rcases hown.2 with ⟨_, h0⟩ | ⟨g, cap, cur, rfl, _⟩
    · omega
    · exact ⟨_, _, rfl⟩
  · exact hb.grown ((World.grownBy_alloc _ _ _).trans hgrow) hb.size (fun b h => (ho.lt b h).1)
  · rw [strs_snoc]
    exact hown

theorem wds_len : ∀ (m : List UInt8), (wds m).length ≤ m.length + 1
  | [] => by simp [wds]
  | b :: m => by
    have ih := wds_len m
    rw [wds]
    split
    · simp; omega
    · split
      · simp
      · rename_i x r h
        rw [h] at ih
        simp at ih ⊢
        omega

theorem take_snoc {l : List UInt8} {i : Nat} (h : i < l.length) : l.take (i + 1) = l.take i ++ [l[i]] := List.take_succ_eq_append_getElem h

theorem dat_get {b : ByteArray} {i : Nat} (h : i < b.data.toList.length) (h' : i < b.size) : getElem b i h' = getElem b.data.toList i h := rfl

theorem dat_cut {b : ByteArray} {i : Nat} (h : i < b.data.toList.length) : b.extract i (i + 1) = byt [b.data.toList[i]] := by
  rw [Array.length_toList] at h
  apply ByteArray.ext
  rw [ByteArray.data_extract]
  apply Array.ext
  · rw [Array.size_extract]
    show min (i + 1) b.data.size - i = 1
    omega
  · intro j h1 h2
    have : j = 0 := by simp [byt] at h2; exact h2
    subst this
    simp [byt]

set_option maxRecDepth 20000 in
set_option maxHeartbeats 4000000 in
theorem cutRef_any (bl : ByteArray) (l : List UInt8) (w : World) (hbl : bl.data.toList = l) (hl : l.length ≤ 4096) :
    Calls Tryd.prog 25 #[.string bl] w fun e w' => Below w.heap.size w w' ∧ ∃ g c, e = .returned (.slice (some ⟨g, 0, none⟩) (wds l).length c) ∧ w'.ownsRow w.heap.size 9 1 (.slice (some ⟨g, 0, none⟩) (wds l).length c) (wds l).length (strs (wds l)) := by
  obtain ⟨i0, hi, hz0, hz1, hz2⟩ := info_parts Tryd.info9
  have HI : Hid (Tryd.prog.info? 9 = some i0 ∧ i0.zero = some (.string ⟨#[]⟩) ∧ i0.size = 1 ∧ i0.bytes = 16) := ⟨hi, hz0, hz1, hz2⟩
  clear hi hz0 hz1 hz2
  have hsz : bl.size = l.length := by rw [← hbl, Array.length_toList]; rfl
  have HGt : Hid (∀ i (h : i < l.length) (h' : i < bl.size), bl[i] = l[i]) := by subst hbl; exact fun i h h' => dat_get h h'
  have HCt : Hid (∀ i (h : i < l.length), bl.extract i (i + 1) = byt [l[i]]) := by subst hbl; exact fun i h => dat_cut h
  clear hbl
  go_enter Tryd.func25, Tryd.ntmps25
  go_wp2
  go_loopw [3, 4] (fun v i wr => ∃ (k n g vc : Nat), k ≤ l.length ∧ i = .int .i64 k ∧ v = .slice (some ⟨g, 0, none⟩) (n + 1) vc ∧ Hid ((wds (l.take k)).length = n + 1 ∧ Below w.heap.size w wr ∧ wr.ownsRow w.heap.size 9 1 (.slice (some ⟨g, 0, none⟩) (n + 1) vc) (n + 1) (strs (wds (l.take k))))) (fun _ i _ => l.length - (intOf i).toNat)
  case atStart =>
    refine ⟨0, 0, w.heap.size, 1, Nat.zero_le _, rfl, rfl, hid ⟨by simp [wds], box_below _ _, by simp [strs, wds], Or.inr ⟨w.heap.size, 1, #[.string ⟨#[]⟩], rfl, Nat.le_refl _, Go.Deep.blk_alloc_new _ _, by omega, by decide, by simp, ?_⟩⟩⟩
    simp [strs, wds, byt]
  case round =>
    obtain ⟨k, n, g, vc, hk, rfl, rfl, HS⟩ := hrel
    have hn : n + 1 ≤ k + 1 := by have h1 := HS.out.1; have h2 := wds_len (l.take k); rw [List.length_take] at h2; omega
    have HSz : Hid (w.heap.size ≤ wr.heap.size) := HS.out.2.1.size
    by_cases hlt : k < l.length
    · have hlt' : k < bl.size := by omega
      have hkz : (k : Int) < bl.size := by omega
      have hgt : bl[k] = l[k] := HGt.out k hlt hlt'
      by_cases hc : l[k] = 32
      · have hq : ((bl[k].toNat : Int) == 32) = true := by rw [hgt, hc]; rfl
        have HP : Hid (wds (l.take (k + 1)) = wds (l.take k) ++ [[]]) := by show _ = _; rw [take_snoc hlt, hc, wds_sp]
        clear hgt hc
        go_wp2_with (at_builtin; refine wpList_append_own_at _ rfl _ _ 62 rfl w.heap.size 9 i0 (.string ⟨#[]⟩) 1 16 Tryd.underlying62 HI.out.1 HI.out.2.1 HI.out.2.2.1 HI.out.2.2.2 rfl (by decide) _ _ _ rfl (HS.out.2.2.alloc _) ⟨wr.heap.size, 0, none⟩ 1 1 [.string (byt [])] rfl rfl (cell_one_new _ _ _) (by intro u hu; rw [List.mem_singleton] at hu; rw [hu]; rfl) (by unfold maxLen; omega) (by omega) (by have := HSz.out; simp; omega) ?_; intro v' w4 hown hgrow _ _; obtain ⟨⟨g4, c4, rfl⟩, H4⟩ := str_step HS.out.2.1 HS.out.2.2 hown hgrow; clear hown hgrow)
        go_roundw
        case rel => exact ⟨k + 1, n + 1, g4, c4, by omega, by go_num, rfl, hid ⟨by rw [HP.out, List.length_append, HS.out.1]; rfl, H4.out.1, by rw [HP.out]; exact H4.out.2⟩⟩
        case measure => simp [intOf]; omega
      · have hq : ((bl[k].toNat : Int) == 32) = false := by
          rw [hgt, beq_eq_false_iff_ne]
          intro h
          exact hc (UInt8.toNat_inj.1 (Int.ofNat.inj h))
        obtain ⟨Q, x, hQ⟩ : ∃ Q x, wds (l.take k) = Q ++ [x] := by
          rcases List.eq_nil_or_concat (wds (l.take k)) with h | ⟨Q, x, h⟩
          · exact absurd h (wds_ne _)
          · exact ⟨Q, x, by rw [h, List.concat_eq_append]⟩
        have HP : Hid (wds (l.take (k + 1)) = Q ++ [x ++ [l[k]]]) := by show _ = _; rw [take_snoc hlt, wds_in hc, hQ, ext1_snoc]
        have ho := HS.out.2.2
        rw [hQ, strs_snoc] at ho
        obtain ⟨h1, h2, _⟩ := owns_last (b := .string (byt x)) ho
        have HO : Hid (∀ b, (wr.setCell ⟨g, n, none⟩ (.string b)).ownsRow w.heap.size 9 1 (.slice (some ⟨g, 0, none⟩) (n + 1) vc) (n + 1) (strs Q ++ [.string b])) := fun b => (owns_last (b := .string b) ho).2.2
        have HBg : Hid (w.heap.size ≤ g) := (ho.lt g rfl).1
        have HX : Hid (byt x ++ bl.extract k (k + 1) = byt (x ++ [l[k]])) := by
          show _ = _
          rw [HCt.out k hlt]
          apply ByteArray.ext
          simp [byt]
        have hxl : (byt x).size ≤ 4096 := by
          have := wds_mem_len (l := l.take k) x (by rw [hQ]; simp)
          rw [List.length_take] at this
          show x.toArray.size ≤ 4096
          simp
          omega
        have HQl : Hid (Q.length = n) := by have := HS.out.1; rw [hQ] at this; simp at this; exact this
        generalize byt x = bx at *
        clear hgt hc ho hQ
        go_wp2
        go_region
        have HB5 : Hid (Below w.heap.size w (wr.setCell ⟨g, n, none⟩ (.string (bx ++ bl.extract k (k + 1)))).drew) := below_drew_iff.2 (HS.out.2.1.setCell HBg.out _)
        have HO5 : Hid ((wr.setCell ⟨g, n, none⟩ (.string (bx ++ bl.extract k (k + 1)))).drew.ownsRow w.heap.size 9 1 (.slice (some ⟨g, 0, none⟩) (n + 1) vc) (n + 1) (strs (wds (l.take (k + 1))))) := by
          have := (HO.out (bx ++ bl.extract k (k + 1))).drew
          rw [HP.out, strs_snoc, ← HX.out]
          exact this
        generalize (wr.setCell ⟨g, n, none⟩ (.string (bx ++ bl.extract k (k + 1)))).drew = w5 at *
        go_wp2
        go_roundw
        case rel => exact ⟨k + 1, n, g, vc, by omega, by go_num, rfl, hid ⟨by rw [HP.out, List.length_append, HQl.out]; rfl, HB5.out, HO5.out⟩⟩
        case measure => simp [intOf]; omega
    · obtain rfl : l.length = k := by omega
      have HF := HS.out
      rw [List.take_length] at HF
      have HF' : Hid ((wds l).length = n + 1 ∧ Below w.heap.size w wr ∧ wr.ownsRow w.heap.size 9 1 (.slice (some ⟨g, 0, none⟩) (n + 1) vc) (n + 1) (strs (wds l))) := HF
      clear HF HS
      go_wp2
      go_ret
      refine ⟨HF'.out.2.1, g, vc, by rw [HF'.out.1]; rfl, by rw [HF'.out.1]; exact HF'.out.2.2⟩

end Go.Proofs.YtnpdkpbhkjnbhaaDoor
