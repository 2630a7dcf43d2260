/- The document's NameOf. Lists of texts. -/
import Derived.Test.YtgpjlgffmlkkoaaDoorTxt
import Derived.Test.YtgpjlgffmlkkoaaDoorPrn
import Derived.Maps.AppendAt
namespace Go.Proofs.YtgpjlgffmlkkoaaDoor
open Go.RowKit

set_option maxHeartbeats 1000000 in
theorem nameOf_any (a : Option Addr) (N c : Nat) (M : Nat → ByteArray) (x : Nat) (w : World) (hx : x ≤ 63) (hN : N ≤ 9223372036854775807) (hMs : ∀ i, i < N → (M i).size ≤ maxLen) (h : Nms w a N M) :
    Calls Tryd.prog 22 #[.int .i64 x, .slice a N c] w fun e w' => e = .returned (.string (wd N M x)) ∧ Below w.heap.size w w' := by
  by_cases h63 : x = 63
  · subst h63
    have E : Hid (wd N M 63 = silW) := hid <| by simp [wd]
    clear h
    go_enter Tryd.func22, Tryd.ntmps22
    go_wp2
    go_ret
    exact ⟨by rw [E.out]; rfl, Below.refl _ _⟩
  have b63 : ((x : Int) == 63) = false := beq_eq_false_iff_ne.2 (by omega)
  by_cases hxN : x < N
  · obtain ⟨b, o, ha, hcell⟩ := h
    obtain rfl := ha (by omega)
    have hcx := hcell x hxN
    have HC := hid hcell
    clear ha hcell
    have C : Hid (Calls Tryd.prog 33 #[.string (M x)] w fun e w' => e = .returned (.bool (nameOk (M x))) ∧ w' = w) := named_any (M x) w (by have := hMs x hxN; unfold maxLen at this; omega)
    have dx : decide ((x : Int) < 0) = false := decide_eq_false (by omega)
    have dN : decide ((N : Int) ≤ x) = false := decide_eq_false (by omega)
    cases hn : nameOk (M x)
    · have E : Hid (wd N M x = ⟨#[]⟩) := hid <| by simp [wd, h63, nmOk, hn]
      rw [hn] at C
      clear hn h63
      go_enter Tryd.func22, Tryd.ntmps22
      go_wp2_with fail
      refine C.out.mono ?_
      rintro e w' ⟨rfl, rfl⟩
      clear C
      go_wp2
      go_ret
      exact ⟨by rw [E.out]; rfl, Below.refl _ _⟩
    · rw [hn] at C
      have HN : Hid (nameOk (M x) = true) := hn
      have H63 : Hid (x ≠ 63) := h63
      clear hn h63
      go_enter Tryd.func22, Tryd.ntmps22
      go_wp2_with fail
      refine C.out.mono ?_
      rintro e w' ⟨rfl, rfl⟩
      clear C
      go_wp2
      go_loopw [5] (fun i wr => ∃ k : Nat, k ≤ x ∧ i = .int .i64 k ∧ Hid ((∀ j, j < k → ((M j).toList == (M x).toList) = false) ∧ Below w'.heap.size w' wr)) (fun i _ => x - (intOf i).toNat)
      case atStart => exact ⟨0, Nat.zero_le _, rfl, hid ⟨fun j hj => absurd hj (Nat.not_lt_zero _), Below.refl _ _⟩⟩
      case round =>
        obtain ⟨k, hk, rfl, HJ⟩ := hrel
        have hcx2 := below_cell HJ.out.2 (Nat.le_refl _) hcx
        by_cases hlt : k < x
        · have hck := below_cell HJ.out.2 (Nat.le_refl _) (HC.out k (by omega))
          have hkz : (k : Int) < N := by omega
          have hk0 : (0 : Int) ≤ k := by omega
          have hxz : (x : Int) < N := by omega
          have hx0 : (0 : Int) ≤ x := by omega
          cases hb : ((M k).toList == (M x).toList)
          · go_wp2
            go_quiet (fail)
            go_wp2
            go_roundw
            case rel => exact ⟨k + 1, by omega, by go_num, hid ⟨snoc_all HJ.out.1 hb, below_drewN HJ.out.2 _⟩⟩
            case measure => simp [intOf]; omega
          · have E : Hid (wd N M x = ⟨#[]⟩) := hid <| by
              have hno : nmOk N M x = false := by
                cases hh : nmOk N M x
                · rfl
                · have := (nmOk_out hh).2.2 k hlt
                  rw [hb] at this
                  cases this
              simp [wd, H63.out, hno]
            go_wp2
            go_quiet (fail)
            go_wp2
            go_ret
            exact ⟨by rw [E.out]; rfl, below_drewN HJ.out.2 _⟩
        · obtain rfl : k = x := by omega
          have E : Hid (wd N M k = M k) := hid <| by
            have hyes : nmOk N M k = true := nmOk_mk hxN HN.out HJ.out.1
            simp [wd, H63.out, hyes]
          go_wp2
          go_ret
          exact ⟨by rw [E.out]; rfl, HJ.out.2⟩
  · have hno : nmOk N M x = false := by
      cases hh : nmOk N M x
      · rfl
      · exact absurd (nmOk_out hh).1 hxN
    have E : Hid (wd N M x = ⟨#[]⟩) := hid <| by simp [wd, hno, h63]
    have dx : decide ((x : Int) < 0) = false := decide_eq_false (by omega)
    have dN : decide ((N : Int) ≤ x) = true := decide_eq_true (by omega)
    clear h hno h63
    go_enter Tryd.func22, Tryd.ntmps22
    go_wp2
    go_ret
    exact ⟨by rw [E.out]; rfl, Below.refl _ _⟩

theorem Tryd.info9 : (Tryd.prog.info? 9).map (fun i => (i.zero, i.size, i.bytes)) = some (some (.string ⟨#[]⟩), 1, 16) := by kernel_rfl

def byt (l : List UInt8) : ByteArray := ⟨l.toArray⟩
theorem byt_data (b : ByteArray) : byt b.data.toList = b := rfl
theorem data_byt (l : List UInt8) : (byt l).data.toList = l := by simp [byt]
theorem byt_size (l : List UInt8) : (byt l).size = l.length := by
  show l.toArray.size = l.length
  simp

def strs (l : List (List UInt8)) : List Value := l.map fun x => .string (byt x)

theorem strs_snoc (l : List (List UInt8)) (x : List UInt8) : strs (l ++ [x]) = strs l ++ [.string (byt x)] := by simp [strs]

theorem str_step {w0 wr w1 : World} {v v' : Value} {l : List (List UInt8)} {n : Nat} {x : List UInt8} {o : Obj} (hb : Below w0.heap.size w0 wr) (ho : wr.ownsRow w0.heap.size 9 1 v n (strs l))
    (hown : w1.ownsRow w0.heap.size 9 1 v' (n + 1) (strs l ++ [.string (byt x)])) (hgrow : (wr.alloc o).grownBy w1 v.ownBlock) :
    (∃ g c, v' = .slice (some ⟨g, 0, none⟩) (n + 1) c) ∧ Hid (Below w0.heap.size w0 w1 ∧ w1.ownsRow w0.heap.size 9 1 v' (n + 1) (strs (l ++ [x]))) := by
  refine ⟨?_, hid ⟨?_, ?_⟩⟩
  · rcases hown.2 with ⟨_, h0⟩ | ⟨g, cap, cur, rfl, _⟩
    · omega
    · exact ⟨_, _, rfl⟩
  · exact hb.grown ((World.grownBy_alloc _ _ _).trans hgrow) hb.size (fun b h => (ho.lt b h).1)
  · rw [strs_snoc]
    exact hown

/-- What a list of texts holds. -/
theorem str_cells {w : World} {base n c : Nat} {va : Option Addr} {l : List (List UInt8)} (h : w.ownsRow base 9 1 (.slice va n c) n (strs l)) (h0 : 0 < n) :
    ∃ g, va = some ⟨g, 0, none⟩ ∧ ∀ (i : Nat) (x : List UInt8), l[i]? = some x → w.cell? ⟨g, i, none⟩ = some (.string (byt x)) := by
  rcases h.2 with ⟨h1, h2⟩ | ⟨g, cap, cur, h1, hb, hg, _⟩
  · cases h1; omega
  · cases h1
    refine ⟨g, rfl, fun i x hx => ?_⟩
    have := h.cells (g := g) rfl i (.string (byt x)) (by simp [strs, hx])
    have hadd : (⟨g, 0, none⟩ : Addr).add i = ⟨g, i, none⟩ := by unfold Addr.add; split <;> simp_all
    rw [hadd] at this
    exact this

end Go.Proofs.YtgpjlgffmlkkoaaDoor
