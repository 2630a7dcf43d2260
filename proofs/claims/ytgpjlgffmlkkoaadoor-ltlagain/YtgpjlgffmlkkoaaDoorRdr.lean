/- The reader's small functions: pass, word, take, part. -/
import Derived.Test.YtgpjlgffmlkkoaaDoorPsr
import Derived.Test.YtgpjlgffmlkkoaaDoorRefChk
import Derived.Deep.RegionHeld3
namespace Go.Proofs.YtgpjlgffmlkkoaaDoor
open Go.RowKit

/-- The reader in block b: its text, its names, where it is, how many are open. -/
def Rd (w : World) (b : Nat) (S : ByteArray) (na : Option Addr) (N nc : Nat) (p o : Int) : Prop :=
  w.heap[b]? = some (.cells #[.string S, .slice na N nc, .int .i64 p, .int .i64 o] 74 (0, 0))

section
variable {w w' : World} {b : Nat} {S : ByteArray} {na : Option Addr} {N nc : Nat} {p o : Int}

theorem Rd.c0 (h : Rd w b S na N nc p o) : w.cell? ⟨b, 0, none⟩ = some (.string S) := cell_of_cells h rfl
theorem Rd.c1 (h : Rd w b S na N nc p o) : w.cell? ⟨b, 1, none⟩ = some (.slice na N nc) := cell_of_cells h rfl
theorem Rd.c2 (h : Rd w b S na N nc p o) : w.cell? ⟨b, 2, none⟩ = some (.int .i64 p) := cell_of_cells h rfl
theorem Rd.c3 (h : Rd w b S na N nc p o) : w.cell? ⟨b, 3, none⟩ = some (.int .i64 o) := cell_of_cells h rfl
theorem Rd.lt (h : Rd w b S na N nc p o) : b < w.heap.size := (Array.getElem?_eq_some_iff.1 h).1
theorem Rd.frozen (h : Rd w b S na N nc p o) (i : Nat) : w.frozen? ⟨b, i, none⟩ = false := by
  have e : w.heap[b]? = _ := h
  simp [World.frozen?, e]
theorem Rd.set2 (h : Rd w b S na N nc p o) (x : Int) : Rd (w.setCell ⟨b, 2, none⟩ (.int .i64 x)) b S na N nc x o := by
  have e : w.heap[b]? = some (.cells #[.string S, .slice na N nc, .int .i64 p, .int .i64 o] 74 (0, 0)) := h
  unfold Rd World.setCell
  simp only [Array.getElem?_modify, if_true, e, Option.map_some]
  rfl
theorem Rd.set3 (h : Rd w b S na N nc p o) (x : Int) : Rd (w.setCell ⟨b, 3, none⟩ (.int .i64 x)) b S na N nc p x := by
  have e : w.heap[b]? = some (.cells #[.string S, .slice na N nc, .int .i64 p, .int .i64 o] 74 (0, 0)) := h
  unfold Rd World.setCell
  simp only [Array.getElem?_modify, if_true, e, Option.map_some]
  rfl
theorem Rd.alloc (h : Rd w b S na N nc p o) (x : Obj) : Rd (w.alloc x) b S na N nc p o := (Go.Deep.blk_alloc_lt _ _ _ h.lt).trans h
theorem Rd.below (h : Rd w b S na N nc p o) (hb : Below w.heap.size w w') : Rd w' b S na N nc p o := (hb.block b h.lt).trans h
theorem Rd.drewN (h : Rd w b S na N nc p o) (n : Nat) : Rd (w.drewN n) b S na N nc p o := h
end

theorem skp_le : ∀ s : List UInt8, (skp s).length ≤ s.length
  | [] => Nat.le_refl _
  | c :: r => by
    unfold skp
    split
    · have := skp_le r; simp; omega
    · exact Nat.le_refl _

/-- What is left behind the first k bytes. -/
def lft (S : ByteArray) (k : Nat) : List UInt8 := S.data.toList.drop k

theorem lft_len (S : ByteArray) (k : Nat) : (lft S k).length = S.size - k := by
  unfold lft
  rw [List.length_drop, Array.length_toList]
  rfl

theorem lft_cons {S : ByteArray} {k : Nat} (h : k < S.size) : lft S k = S[k] :: lft S (k + 1) := by
  unfold lft
  have h' : k < S.data.toList.length := by rw [Array.length_toList]; exact h
  rw [List.drop_eq_getElem_cons h']
  rfl

theorem lft_nil {S : ByteArray} {k : Nat} (h : ¬ k < S.size) : lft S k = [] := by
  refine List.eq_nil_of_length_eq_zero ?_
  rw [lft_len]
  omega

theorem skp_blank {S : ByteArray} {k : Nat} (h : k < S.size) (hc : S[k] = 32) : skp (lft S k) = skp (lft S (k + 1)) := by
  rw [lft_cons h, skp, if_pos hc]
theorem skp_other {S : ByteArray} {k : Nat} (h : k < S.size) (hc : S[k] ≠ 32) : skp (lft S k) = lft S k := by
  rw [lft_cons h, skp, if_neg hc]
theorem skp_end {S : ByteArray} {k : Nat} (h : ¬ k < S.size) : skp (lft S k) = lft S k := by
  rw [lft_nil h]; rfl

set_option maxHeartbeats 4000000 in
set_option maxRecDepth 100000 in
theorem pass_any (b : Nat) (S : ByteArray) (na : Option Addr) (N nc : Nat) (p x : Nat) (o : Int) (w : World) (h : Rd w b S na N nc p o) (hp : p + x ≤ S.size) (hS : S.size ≤ 1000) :
    Calls Tryd.prog 34 #[.pointer (some ⟨b, 0, none⟩), .int .i64 x] w fun e w' => e = .returned (.tuple #[]) ∧ ∃ k : Nat, k ≤ S.size ∧ lft S k = skp (lft S (p + x)) ∧ Rd w' b S na N nc k o ∧ But b w w' := by
  have HR := hid h
  have c0 := h.c0
  have c2 := h.c2
  have hf := h.frozen 2
  clear h
  go_enter Tryd.func34, Tryd.ntmps34
  go_wp2
  go_loopw [] (fun wr => ∃ k : Nat, k ≤ S.size ∧ Hid (skp (lft S k) = skp (lft S (p + x)) ∧ Rd wr b S na N nc k o ∧ But b w wr)) (fun wr => S.size - (match wr.cell? ⟨b, 2, none⟩ with | some (.int _ z) => z.toNat | _ => 0))
  case atStart => exact ⟨p + x, hp, hid ⟨rfl, by have := HR.out.set2 ((p : Int) + x); simpa using this, (But.refl _ _).setCell 2 _⟩⟩
  case round =>
    obtain ⟨k, hk, HK⟩ := hrel
    have d0 := HK.out.2.1.c0
    have d2 := HK.out.2.1.c2
    have df := HK.out.2.1.frozen 2
    by_cases hlt : k < S.size
    · have hkz : (k : Int) < S.size := by omega
      have hk0 : (0 : Int) ≤ k := by omega
      have dk : decide ((k : Int) < S.size) = true := decide_eq_true hkz
      by_cases hc : S[k] = 32
      · have hb : ((S[k].toNat : Int) == 32) = true := by rw [hc]; rfl
        have HN : Hid (skp (lft S (k + 1)) = skp (lft S (p + x))) := (skp_blank hlt hc).symm.trans HK.out.1
        clear hc c0 c2 hf
        go_wp2
        go_quiet (fail)
        go_wp2
        go_roundw
        case rel => exact ⟨k + 1, by omega, hid ⟨HN.out, (HK.out.2.1.drewN _).set2 _, (HK.out.2.2.drewN _).setCell 2 _⟩⟩
        case measure =>
          have e1 := ((HK.out.2.1.drewN nq).set2 ((k : Int) + 1)).c2
          simp only [e1, d2]
          have h1 : ((k : Int) + 1).toNat = k + 1 := by omega
          have h2 : ((k : Int)).toNat = k := by omega
          rw [h1, h2]
          omega
      · have hb : ((S[k].toNat : Int) == 32) = false := by
          rw [beq_eq_false_iff_ne]
          intro hh
          exact hc (UInt8.toNat_inj.1 (Int.ofNat.inj hh))
        have HN : Hid (lft S k = skp (lft S (p + x))) := (skp_other hlt hc).symm.trans HK.out.1
        clear hc c0 c2 hf
        go_wp2
        go_quiet (fail)
        go_wp2
        go_end0
        exact ⟨rfl, k, hk, HN.out, HK.out.2.1.drewN _, HK.out.2.2.drewN _⟩
    · have dk : decide ((k : Int) < S.size) = false := decide_eq_false (by omega)
      have HN : Hid (lft S k = skp (lft S (p + x))) := (skp_end hlt).symm.trans HK.out.1
      clear c0 c2 hf
      go_wp2
      go_quiet (fail)
      go_wp2
      go_end0
      exact ⟨rfl, k, hk, HN.out, HK.out.2.1.drewN _, HK.out.2.2.drewN _⟩

theorem part_any (k : Int) (a : Option Addr) (c cap : Nat) (w : World) :
    Calls Tryd.prog 49 #[.int .i64 k, .slice a c cap] w fun e w' => e = .returned (.agg #[.int .i64 k, .int .i64 0, .slice a c cap]) ∧ Below w.heap.size w w' := by
  go_enter Tryd.func49, Tryd.ntmps49
  go_wp2
  (try simp only [Exit.inBlock, Exit.then])
  refine bodyPost_ret (results_cell_row rfl _ _ w.heap.size 24 #[.int .i64 k, .int .i64 0, .slice a c cap] (0, 0) _ rfl ?_ Tryd.underlying24 rfl (by kernel_rfl)) rfl ?_
  · exact Go.Deep.blk_alloc_new _ _
  · exact ⟨rfl, box_below _ _⟩

def hpB (s g : ByteArray) : Bool := decide (g.size ≤ s.size) && ((s.extract 0 g.size).toList == g.toList)

theorem hasPrefix1_any (s g : ByteArray) (w : World) :
    Calls Tryd.prog 72 #[.string s, .string g] w fun e w' => e = .returned (.bool (hpB s g)) ∧ w' = w := by
  by_cases h1 : g.size ≤ s.size
  · have d1 : decide ((g.size : Int) ≤ s.size) = true := decide_eq_true (by omega)
    have hz : (g.size : Int) ≤ s.size := by omega
    cases h2 : ((s.extract 0 g.size).toList == g.toList)
    · have E : Hid (hpB s g = false) := hid <| by simp [hpB, h1, h2]
      go_enter Tryd.func72, Tryd.ntmps72
      go_wp2
      go_ret
      exact ⟨ret_bool E.out.symm, rfl⟩
    · have E : Hid (hpB s g = true) := hid <| by simp [hpB, h1, h2]
      go_enter Tryd.func72, Tryd.ntmps72
      go_wp2
      go_ret
      exact ⟨ret_bool E.out.symm, rfl⟩
  · have d1 : decide ((g.size : Int) ≤ s.size) = false := decide_eq_false (by omega)
    have E : Hid (hpB s g = false) := hid <| by simp [hpB, h1]
    go_enter Tryd.func72, Tryd.ntmps72
    go_wp2
    go_ret
    exact ⟨ret_bool E.out.symm, rfl⟩

theorem hasPrefix_any (s g : ByteArray) (w : World) :
    Calls Tryd.prog 64 #[.string s, .string g] w fun e w' => e = .returned (.bool (hpB s g)) ∧ w' = w := by
  have C := hid (hasPrefix1_any s g w)
  go_enter Tryd.func64, Tryd.ntmps64
  go_wp2_with fail
  refine C.out.mono ?_
  rintro e w' ⟨rfl, rfl⟩
  clear C
  go_wp2
  go_ret
  exact ⟨rfl, rfl⟩

/-- Does what is left begin with the sign? -/
def hasP (g s : List UInt8) : Bool := g.isPrefixOf s

theorem ext_toList (S : ByteArray) (i j : Nat) : (S.extract i j).toList = (S.data.toList.take j).drop i := by
  rw [ByteArray.toList_eq, ByteArray.data_extract, Array.toList_extract]
  simp [List.drop_take]

theorem hpB_lft (S : ByteArray) (p : Nat) (g : List UInt8) (hp : p ≤ S.size) : hpB (S.extract p S.size) (byt g) = hasP g (lft S p) := by
  have e1 : (S.extract p S.size).toList = lft S p := by
    rw [ext_toList, List.take_of_length_le (by rw [Array.length_toList]; exact Nat.le_refl _)]
    rfl
  have e2 : (S.extract p S.size).size = (lft S p).length := by rw [lft_len, ByteArray.size_extract]; omega
  have e3 : ((S.extract p S.size).extract 0 (byt g).size).toList = (lft S p).take g.length := by
    rw [ext_toList, ← ByteArray.toList_eq, e1, byt_size]
    rfl
  have e4 : (byt g).toList = g := by rw [ByteArray.toList_eq, data_byt]
  unfold hpB hasP
  rw [e3, e4, e2, byt_size]
  generalize lft S p = l
  clear e1 e2 e3 e4
  cases h : g.isPrefixOf l
  · rw [Bool.and_eq_false_iff]
    by_cases h1 : g.length ≤ l.length
    · refine Or.inr (beq_eq_false_iff_ne.2 fun hh => ?_)
      have : g <+: l := by rw [← hh]; exact List.take_prefix _ _
      rw [List.isPrefixOf_iff_prefix.2 this] at h
      cases h
    · exact Or.inl (decide_eq_false h1)
  · have hp := List.isPrefixOf_iff_prefix.1 h
    rw [Bool.and_eq_true]
    exact ⟨decide_eq_true hp.length_le, beq_iff_eq.2 (List.prefix_iff_eq_take.1 hp).symm⟩

set_option maxHeartbeats 4000000 in
theorem take_any (b : Nat) (S : ByteArray) (na : Option Addr) (N nc : Nat) (p : Nat) (o : Int) (g : List UInt8) (w : World) (h : Rd w b S na N nc p o) (hp : p ≤ S.size) (hS : S.size ≤ 1000) :
    Calls Tryd.prog 48 #[.pointer (some ⟨b, 0, none⟩), .string (byt g)] w fun e w' => e = .returned (.bool (hasP g (lft S p))) ∧
      ∃ k : Nat, k ≤ S.size ∧ lft S k = (if hasP g (lft S p) = true then skp (lft S (p + g.length)) else lft S p) ∧ Rd w' b S na N nc k o ∧ But b w w' := by
  have C : Hid (∀ u, Calls Tryd.prog 64 #[.string (S.extract p S.size), .string (byt g)] u fun e w' => e = .returned (.bool (hasP g (lft S p))) ∧ w' = u) := fun u => by
    have := hasPrefix_any (S.extract p S.size) (byt g) u
    rwa [hpB_lft S p g hp] at this
  have HP : Hid (hasP g (lft S p) = true → p + g.length ≤ S.size) := fun hh => by
    have := (List.isPrefixOf_iff_prefix.1 hh).length_le
    rw [lft_len] at this
    omega
  have HR := hid h
  have c0 := h.c0
  have c2 := h.c2
  have hw1 : IntKind.i64.wrap (p : Int) = p := by rw [IntKind.wrap_i64] <;> omega
  have hpz : (p : Int) ≤ S.size := by omega
  have hp0 : (0 : Int) ≤ p := by omega
  have hgs := byt_size g
  have HGs := hid hgs
  obtain ⟨hb, hhb⟩ : ∃ y, y = hasP g (lft S p) := ⟨_, rfl⟩
  rw [← hhb] at C HP
  rw [← hhb]
  have HHb := hid hhb
  clear h hhb hgs
  cases hb
  · go_enter Tryd.func48, Tryd.ntmps48
    go_wp2
    go_quiet (first | (go_at_call 64; exact Calls.quiet_of_same (C.out _)))
    go_wp2
    go_ret
    exact ⟨rfl, p, hp, by simp, HR.out.drewN _, (But.refl _ _).drewN _⟩
  · have hpg := HP.out rfl
    have C2 : Hid (∀ u, Rd u b S na N nc p o → Calls Tryd.prog 34 #[.pointer (some ⟨b, 0, none⟩), .int .i64 (byt g).size] u fun e w' => e = .returned (.tuple #[]) ∧ ∃ k : Nat, k ≤ S.size ∧ lft S k = skp (lft S (p + g.length)) ∧ Rd w' b S na N nc k o ∧ But b u w') := fun u hu => by
      rw [HGs.out]
      exact pass_any b S na N nc p g.length o u hu hpg hS
    go_enter Tryd.func48, Tryd.ntmps48
    go_wp2
    go_quiet (first | (go_at_call 64; exact Calls.quiet_of_same (C.out _)))
    go_wp2_with fail
    refine (C2.out _ (HR.out.drewN _)).mono ?_
    rintro e w2 ⟨rfl, k, hk, hl, hr, hbt⟩
    have H2 : Hid (lft S k = skp (lft S (p + g.length)) ∧ Rd w2 b S na N nc k o ∧ But b w w2) := ⟨hl, hr, ((But.refl b w).drewN _).trans hbt⟩
    clear C C2 hl hr hbt
    go_wp2
    go_ret
    exact ⟨rfl, k, hk, by first | exact H2.out.1 | (rw [if_pos rfl]; exact H2.out.1), H2.out.2⟩

end Go.Proofs.YtgpjlgffmlkkoaaDoor
