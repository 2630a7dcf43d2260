/- The document's Lines. -/
import Derived.Test.YtnpdkpbhkjnbhaaDoorRefCut
namespace Go.Proofs.YtnpdkpbhkjnbhaaDoor
open Go.RowKit

/-- The lines of a text: each with its byte 10, the last one perhaps without. -/
structure LnIs (l : List UInt8) (L : List (List UInt8)) : Prop where
  all : L.flatten = l
  each : ∀ i (h : i < L.length), (∃ y, L[i] = y ++ [10] ∧ 10 ∉ y) ∨ (i + 1 = L.length ∧ L[i] ≠ [] ∧ 10 ∉ L[i])

structure LnTo (l : List UInt8) (L : List (List UInt8)) (i f : Nat) : Prop where
  fle : f ≤ i
  all : L.flatten = l.take f
  each : ∀ x ∈ L, ∃ y : List UInt8, x = y ++ [10] ∧ 10 ∉ y
  len : L.length ≤ f
  no : (10 : UInt8) ∉ (l.take i).drop f

theorem dat_part {b : ByteArray} {f i : Nat} : b.extract f i = byt ((b.data.toList.take i).drop f) := by
  apply ByteArray.ext
  rw [ByteArray.data_extract]
  apply Array.toList_inj.1
  simp [byt, List.drop_take]

theorem LnTo.line {l : List UInt8} {L : List (List UInt8)} {i f : Nat} (h : LnTo l L i f) (hi : i < l.length) (hc : l[i] = 10) : LnTo l (L ++ [(l.take (i + 1)).drop f]) (i + 1) (i + 1) := by
  have hfl := h.fle
  have e : (l.take (i + 1)).drop f = (l.take i).drop f ++ [10] := by rw [take_snoc hi, hc, List.drop_append_of_le_length (by rw [List.length_take]; omega)]
  refine ⟨Nat.le_refl _, ?_, fun x hx => ?_, ?_, by simp⟩
  · rw [List.flatten_append, h.all, List.flatten_cons, List.flatten_nil, List.append_nil]
    have : l.take f = (l.take (i + 1)).take f := by rw [List.take_take]; congr 1; omega
    rw [this, List.take_append_drop]
  · rcases List.mem_append.1 hx with hx | hx
    · exact h.each x hx
    · rw [List.mem_singleton] at hx
      exact ⟨_, by rw [hx, e], h.no⟩
  · have := h.len
    simp
    omega

theorem LnTo.more {l : List UInt8} {L : List (List UInt8)} {i f : Nat} (h : LnTo l L i f) (hi : i < l.length) (hc : l[i] ≠ 10) : LnTo l L (i + 1) f := by
  have hfl := h.fle
  have e : (l.take (i + 1)).drop f = (l.take i).drop f ++ [l[i]] := by rw [take_snoc hi, List.drop_append_of_le_length (by rw [List.length_take]; omega)]
  refine ⟨by omega, h.all, h.each, h.len, ?_⟩
  rw [e, List.mem_append, not_or]
  exact ⟨h.no, by simpa using Ne.symm hc⟩

theorem LnTo.done {l : List UInt8} {L : List (List UInt8)} (h : LnTo l L l.length l.length) : LnIs l L := by
  refine ⟨by rw [h.all, List.take_length], fun i hi => Or.inl (h.each _ (List.getElem_mem hi))⟩

theorem LnTo.rest {l : List UInt8} {L : List (List UInt8)} {f : Nat} (h : LnTo l L l.length f) (hf : f < l.length) : LnIs l (L ++ [l.drop f]) := by
  refine ⟨by rw [List.flatten_append, h.all]; simp, fun i hi => ?_⟩
  by_cases e : i < L.length
  · rw [List.getElem_append_left e]
    exact Or.inl (h.each _ (List.getElem_mem e))
  · have e2 : i = L.length := by simp at hi; omega
    subst e2
    have e3 : (L ++ [l.drop f])[L.length] = l.drop f := by simp
    rw [e3]
    refine Or.inr ⟨by simp, ?_, ?_⟩
    · intro hh
      have := congrArg List.length hh
      simp at this
      omega
    · have := h.no
      rw [List.take_length] at this
      exact this

set_option maxRecDepth 20000 in
set_option maxHeartbeats 4000000 in
theorem linesRef_any (bl : ByteArray) (l : List UInt8) (w : World) (hbl : bl.data.toList = l) (hl : l.length ≤ 4096) :
    Calls Tryd.prog 24 #[.string bl] w fun e w' => Below w.heap.size w w' ∧ ∃ L, LnIs l L ∧ L.length ≤ 4097 ∧ ∃ a c, e = .returned (.slice a L.length c) ∧ w'.ownsRow w.heap.size 9 1 (.slice a L.length c) L.length (strs L) := by
  obtain ⟨i0, hi, hz0, hz1, hz2⟩ := info_parts Tryd.info9
  have HI : Hid (Tryd.prog.info? 9 = some i0 ∧ i0.zero = some (.string ⟨#[]⟩) ∧ i0.size = 1 ∧ i0.bytes = 16) := ⟨hi, hz0, hz1, hz2⟩
  clear hi hz0 hz1 hz2
  have hsz : bl.size = l.length := by rw [← hbl, Array.length_toList]; rfl
  have HGt : Hid (∀ i (h : i < l.length) (h' : i < bl.size), bl[i] = l[i]) := by subst hbl; exact fun i h h' => dat_get h h'
  have HCt : Hid (∀ f i, bl.extract f i = byt ((l.take i).drop f)) := by subst hbl; exact fun f i => dat_part
  clear hbl
  go_enter Tryd.func24, Tryd.ntmps24
  go_wp2
  go_loopw [3, 4, 5] (fun v vf vi wr => ∃ (i f n : Nat) (va : Option Addr) (vc : Nat), i ≤ l.length ∧ f ≤ i ∧ n ≤ 4096 ∧ vi = .int .i64 i ∧ vf = .int .i64 f ∧ v = .slice va n vc ∧ Hid (∃ L, LnTo l L i f ∧ L.length = n ∧ Below w.heap.size w wr ∧ wr.ownsRow w.heap.size 9 1 (.slice va n vc) n (strs L))) (fun _ _ i _ => l.length - (intOf i).toNat)
  case atStart => exact ⟨0, 0, 0, none, 0, Nat.zero_le _, Nat.le_refl _, Nat.zero_le _, rfl, rfl, rfl, hid ⟨[], ⟨Nat.le_refl _, by simp, fun x hx => absurd hx (by simp), Nat.le_refl _, by simp⟩, rfl, Below.refl _ _, World.ownsRow_nil _ _ _ _⟩⟩
  case round =>
    obtain ⟨i, f, n, va, vc, hi, hfi, hn, rfl, rfl, rfl, HS⟩ := hrel
    obtain ⟨L, hL, hLn, hbw, hown⟩ := HS.out
    have HL : Hid (LnTo l L i f ∧ L.length = n ∧ Below w.heap.size w wr ∧ wr.ownsRow w.heap.size 9 1 (.slice va n vc) n (strs L)) := ⟨hL, hLn, hbw, hown⟩
    have HSz : Hid (w.heap.size ≤ wr.heap.size) := hbw.size
    have hnf : n ≤ f := by rw [← hLn]; exact hL.len
    clear HS hL hLn hbw hown
    by_cases hlt : i < l.length
    · have hlt' : i < bl.size := by omega
      have hkz : (i : Int) < bl.size := by omega
      have hgt : bl[i] = l[i] := HGt.out i hlt hlt'
      by_cases hc : l[i] = 10
      · have hq : ((bl[i].toNat : Int) == 10) = true := by rw [hgt, hc]; rfl
        have HN : Hid (LnTo l (L ++ [(l.take (i + 1)).drop f]) (i + 1) (i + 1)) := HL.out.1.line hlt hc
        have hx := HCt.out f (i + 1)
        obtain ⟨x, hxx⟩ : ∃ x, x = (l.take (i + 1)).drop f := ⟨_, rfl⟩
        rw [← hxx] at hx HN
        clear hgt hc hxx
        have hfz : (f : Int) ≤ (i : Int) + 1 := by omega
        have hiz : (i : Int) + 1 ≤ bl.size := by omega
        go_wp2_with (at_builtin; refine wpList_append_own_at _ rfl _ _ 62 rfl w.heap.size 9 i0 (.string ⟨#[]⟩) 1 16 Tryd.underlying62 HI.out.1 HI.out.2.1 HI.out.2.2.1 HI.out.2.2.2 rfl (by decide) _ _ _ rfl (HL.out.2.2.2.alloc _) ⟨wr.heap.size, 0, none⟩ 1 1 [.string (byt x)] rfl rfl (cell_one_new _ _ _) (by intro u hu; rw [List.mem_singleton] at hu; rw [hu]; rfl) (by unfold maxLen; omega) (by omega) (by have := HSz.out; simp; omega) ?_; intro v' w4 hown hgrow _ _; obtain ⟨⟨g4, c4, rfl⟩, H4⟩ := str_step HL.out.2.2.1 HL.out.2.2.2 hown hgrow; clear hown hgrow)
        go_roundw
        case rel => exact ⟨i + 1, i + 1, n + 1, _, c4, by omega, Nat.le_refl _, by omega, by go_num, by go_num, rfl, hid ⟨L ++ [x], HN.out, by rw [List.length_append, HL.out.2.1]; rfl, H4.out.1, H4.out.2⟩⟩
        case measure => simp [intOf]; omega
      · have hq : ((bl[i].toNat : Int) == 10) = false := by
          rw [hgt, beq_eq_false_iff_ne]
          intro h
          exact hc (UInt8.toNat_inj.1 (Int.ofNat.inj h))
        have HN : Hid (LnTo l L (i + 1) f) := HL.out.1.more hlt hc
        clear hgt hc
        go_wp2
        go_roundw
        case rel => exact ⟨i + 1, f, n, va, vc, by omega, by omega, hn, by go_num, rfl, rfl, hid ⟨L, HN.out, HL.out.2⟩⟩
        case measure => simp [intOf]; omega
    · obtain rfl : l.length = i := by omega
      by_cases hf : f < l.length
      · have HN : Hid (LnIs l (L ++ [l.drop f])) := HL.out.1.rest hf
        have hx := HCt.out f l.length
        rw [List.take_length] at hx
        obtain ⟨x, hxx⟩ : ∃ x, x = l.drop f := ⟨_, rfl⟩
        rw [← hxx] at hx HN
        clear hxx
        have hfz : (f : Int) < l.length := by omega
        go_wp2_with (at_builtin; refine wpList_append_own_at _ rfl _ _ 62 rfl w.heap.size 9 i0 (.string ⟨#[]⟩) 1 16 Tryd.underlying62 HI.out.1 HI.out.2.1 HI.out.2.2.1 HI.out.2.2.2 rfl (by decide) _ _ _ rfl (HL.out.2.2.2.alloc _) ⟨wr.heap.size, 0, none⟩ 1 1 [.string (byt x)] rfl rfl (cell_one_new _ _ _) (by intro u hu; rw [List.mem_singleton] at hu; rw [hu]; rfl) (by unfold maxLen; omega) (by omega) (by have := HSz.out; simp; omega) ?_; intro v' w4 hown hgrow _ _; obtain ⟨⟨g4, c4, rfl⟩, H4⟩ := str_step HL.out.2.2.1 HL.out.2.2.2 hown hgrow; clear hown hgrow)
        go_ret
        exact ⟨H4.out.1, L ++ [x], HN.out, by rw [List.length_append, HL.out.2.1]; simp; omega, _, c4, by rw [List.length_append, HL.out.2.1]; rfl, by rw [List.length_append, HL.out.2.1]; exact H4.out.2⟩
      · obtain rfl : l.length = f := by omega
        have HN : Hid (LnIs l L) := HL.out.1.done
        go_wp2
        go_ret
        exact ⟨HL.out.2.2.1, L, HN.out, by rw [HL.out.2.1]; omega, va, vc, by rw [HL.out.2.1]; rfl, by rw [HL.out.2.1]; exact HL.out.2.2.2⟩

end Go.Proofs.YtnpdkpbhkjnbhaaDoor
