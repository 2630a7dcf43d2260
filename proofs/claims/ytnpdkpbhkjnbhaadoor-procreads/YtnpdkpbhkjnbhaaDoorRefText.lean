/- The document's KindWord, ProcessText. -/
import Derived.Test.YtnpdkpbhkjnbhaaDoorPrintW
import Derived.Test.YtnpdkpbhkjnbhaaDoorTxt
import Derived.Test.YtnpdkpbhkjnbhaaDoorCls
namespace Go.Proofs.YtnpdkpbhkjnbhaaDoor
open Go.RowKit

def kwVals : Array Value := #[.string ⟨#[]⟩, .string ⟨#[115, 116, 97, 114, 116]⟩, .string ⟨#[101, 110, 100]⟩, .string ⟨#[115, 116, 111, 112]⟩, .string ⟨#[116, 97, 115, 107]⟩, .string ⟨#[120, 111, 114]⟩, .string ⟨#[97, 110, 100]⟩, .string ⟨#[111, 114]⟩]

theorem index_kw (k : Nat) (w : World) (h7 : k ≤ 7) : (Instr.index 53 (.agg kwVals) (.int .i64 k)).run Tryd.prog w = .ok (.string (kw k)) w := by
  have hc : kwVals[k]? = some (.string (kw k)) := by
    match k, h7 with
    | 0, _ => rfl
    | 1, _ => rfl
    | 2, _ => rfl
    | 3, _ => rfl
    | 4, _ => rfl
    | 5, _ => rfl
    | 6, _ => rfl
    | 7, _ => rfl
  simp [Instr.index, run_underlying Tryd.underlying53, asIntOf, go_sem]
  rw [if_pos (by omega), hc]
  rfl

theorem kindWord_any (k : Nat) (w : World) (h7 : k ≤ 7) : Calls Tryd.prog 19 #[.int .i64 k] w fun e w' => e = .returned (.string (kw k)) ∧ Below w.heap.size w w' := by
  have HI := index_kw k w h7
  unfold kwVals at HI
  clear h7
  go_enter Tryd.func19, Tryd.ntmps19
  go_wp2
  go_ret
  exact ⟨rfl, Below.refl _ _⟩

theorem lnF_words' (M : Nat → ByteArray) (A B : Nat → Int) (k : Nat) : wordsTo (flowW M A B k) 3 = [102, 108, 111, 119] ++ ([32] ++ ((M (A k).toNat).data.toList ++ ([32] ++ (M (B k).toNat).data.toList))) := by
  simp [wordsTo, flowW]

theorem lnN_words' (M : Nat → ByteArray) (K : Nat → Int) (k : Nat) : wordsTo (nodeW M K k) 2 = (kw (K k).toNat).data.toList ++ ([32] ++ (M k).data.toList) := by
  simp [wordsTo, nodeW]

set_option maxRecDepth 20000 in
set_option maxHeartbeats 4000000 in
theorem processText_any (na fa : Option Addr) (N nc F fc : Nat) (M : Nat → ByteArray) (K A B : Nat → Int) (w : World) (hp : Prc w na N nc fa F M K A B) (he : ChkIs N F M K A B 0) :
    Calls Tryd.prog 7 #[.agg #[.slice na N nc, .slice fa F fc]] w fun e w' => e = .returned (.string (byt (txF N M K A B F))) ∧ Below w.heap.size w w' := by
  have hch := chk_zero he
  have hN20 : N ≤ 20 := hch.1.1
  have hF30 : F ≤ 30 := hch.1.2
  have HNm : Hid (∀ i, i < N → (M i).size ≤ 8 ∧ (1 ≤ K i ∧ K i ≤ 7)) := fun i hi => ⟨nameOk_size (nodes_names hch.2.1 i hi).1, (nodes_names hch.2.1 i hi).2⟩
  have HEn : Hid (∀ i, i < F → (0 ≤ A i ∧ A i < N) ∧ (0 ≤ B i ∧ B i < N)) := endsOk_all hch.2.2.1
  have HP : Hid (Prc w na N nc fa F M K A B) := hp
  clear hch hp he
  obtain ⟨W, eW⟩ : ∃ x, x = w.alloc (.cells #[.slice na N nc, .slice fa F fc] 25) := ⟨_, rfl⟩
  have HW : Hid (Below w.heap.size w W ∧ W.heap.size = w.heap.size + 1) := by subst eW; exact ⟨box_below _ _, by simp⟩
  have HBx : Hid (∀ w1, Below W.heap.size W w1 → w1.cell? ⟨w.heap.size, 0, none⟩ = some (.slice na N nc) ∧ w1.cell? ⟨w.heap.size, 1, none⟩ = some (.slice fa F fc)) := fun w1 h => by
    have h' : Below (w.heap.size + 1) (w.alloc (.cells #[.slice na N nc, .slice fa F fc] 25)) w1 := by rw [← HW.out.2, ← eW]; exact h
    exact ⟨box_keep h' rfl, box_keep h' rfl⟩
  have HEW : Hid (w.alloc (.cells #[.slice na N nc, .slice fa F fc] 25) = W) := eW.symm
  have HPW : Hid (Prc W na N nc fa F M K A B) := HP.out.below HW.out.1
  clear eW
  obtain ⟨hc0, hc1⟩ := HBx.out W (Below.refl _ _)
  go_enter Tryd.func7, Tryd.ntmps7
  go_wp2
  rw [HEW.out]
  go_loopw [3, 4] (fun v i wr => ∃ (k : Nat) (b : ByteArray), k ≤ N ∧ i = .int .i64 k ∧ v = .string b ∧ Hid (b = byt (txN M K k)) ∧ Hid (Below W.heap.size W wr)) (fun _ i _ => N - (intOf i).toNat)
  case atStart => exact ⟨0, ⟨#[]⟩, Nat.zero_le _, rfl, rfl, rfl, Below.refl _ _⟩
  case round =>
    obtain ⟨k, b, hk, rfl, rfl, HBt, HBr⟩ := hrel
    clear hc0 hc1
    obtain ⟨hc0, hc1⟩ := HBx.out wr HBr.out
    by_cases hlt : k < N
    · obtain ⟨bn, on, han, hcn⟩ := HPW.out.nds
      obtain rfl := han (by omega)
      obtain ⟨hn1, hn2⟩ := Nds.at hcn HBr.out hlt
      clear hcn han
      have hkz : (k : Int) < N := by omega
      obtain ⟨hM8, hK1, hK7⟩ := HNm.out k hlt
      obtain ⟨κ, hκ⟩ : ∃ x : Nat, K k = x := ⟨(K k).toNat, by omega⟩
      rw [hκ] at hn2 hK1 hK7
      have CK : Hid (∀ u, Below wr.heap.size wr u → Calls Tryd.prog 19 #[.int .i64 κ] u fun e w' => e = .returned (.string (kw κ)) ∧ Below wr.heap.size wr w') := fun u hu => (kindWord_any κ u (by omega)).mono fun e w' ⟨h1, h2⟩ => ⟨h1, hu.trans (h2.mono hu.size)⟩
      have hks := kw_size κ
      have hbs : b.size ≤ 1000 := by
        have h1 := txN_len (K := K) k (fun i hi => (HNm.out i (by omega)).1)
        rw [HBt.out]
        show (txN M K k).toArray.size ≤ 1000
        simp
        omega
      have k0 : ∀ y : Cls wr, y.u.cell? ⟨w.heap.size, 0, none⟩ = some (.slice (some ⟨bn, on, none⟩) N nc) := fun y => y.cell hc0
      have k1 : ∀ y : Cls wr, y.u.cell? ⟨bn, on + k * 2, none⟩ = some (.string (M k)) := fun y => y.cell hn1
      have k2 : ∀ y : Cls wr, y.u.cell? ⟨bn, on + k * 2 + 1, none⟩ = some (.int .i64 κ) := fun y => y.cell hn2
      have _hne := cls_some wr
      go_wp2
      refine wp_region_cls (by kernel_rfl) (by kernel_rfl) ?_
      repeat (go_big_quiet_step (exact Cls.calls (CK.out _ (Cls.h _))))
      refine wpQuiet_nil ?_
      rintro _ ⟨y, rfl⟩
      have HBy : Hid (Below W.heap.size W y.u) := HBr.out.trans (y.h.mono HBr.out.size)
      have HNx : Hid (b ++ (kw κ ++ ⟨#[32]⟩ ++ M k ++ ⟨#[10]⟩) = byt (txN M K (k + 1))) := by
        show _ = _
        rw [HBt.out, txN, lnN_words', hκ]
        apply ByteArray.ext
        simp [byt]
      generalize b ++ (kw κ ++ ⟨#[32]⟩ ++ M k ++ ⟨#[10]⟩) = b' at *
      clear k0 k1 k2 CK
      go_wp2
      go_roundw
      case rel => exact ⟨k + 1, b', by omega, by go_num, rfl, HNx, HBy⟩
      case measure => simp [intOf]; omega
    · obtain rfl : N = k := by omega
      have HB0 : Hid (b = byt (txF N M K A B 0)) := HBt.out
      have HBr0 : Hid (Below W.heap.size W wr) := HBr.out
      clear HBt HBr
      obtain ⟨w5, ew5⟩ : ∃ x, x = wr := ⟨_, rfl⟩
      rw [← ew5] at HBr0 hc0 hc1 ⊢
      clear ew5
      go_wp2
      go_loopw [3, 5] (fun v i wr => ∃ (k : Nat) (b : ByteArray), k ≤ F ∧ i = .int .i64 k ∧ v = .string b ∧ Hid (b = byt (txF N M K A B k)) ∧ Hid (Below W.heap.size W wr)) (fun _ i _ => F - (intOf i).toNat)
      case atStart => exact ⟨0, b, Nat.zero_le _, rfl, rfl, HB0, HBr0⟩
      case round =>
        obtain ⟨k, b, hk, rfl, rfl, HBt, HBr⟩ := hrel
        clear hc0 hc1
        obtain ⟨hc0, hc1⟩ := HBx.out wr HBr.out
        by_cases hlt : k < F
        · obtain ⟨bf, of, haf, hcf⟩ := HPW.out.fls
          obtain rfl := haf (by omega)
          obtain ⟨hf1, hf2⟩ := Fls.at hcf HBr.out hlt
          clear hcf haf
          have hkz : (k : Int) < F := by omega
          obtain ⟨⟨hA0, hAN⟩, hB0, hBN⟩ := HEn.out k hlt
          obtain ⟨x, hx⟩ : ∃ x : Nat, A k = x := ⟨(A k).toNat, by omega⟩
          obtain ⟨y, hy⟩ : ∃ y : Nat, B k = y := ⟨(B k).toNat, by omega⟩
          rw [hx] at hf1 hA0 hAN
          rw [hy] at hf2 hB0 hBN
          obtain ⟨bn, on, han, hcn⟩ := HPW.out.nds
          obtain rfl := han (by omega)
          have hnx := (Nds.at hcn HBr.out (k := x) (by omega)).1
          have hny := (Nds.at hcn HBr.out (k := y) (by omega)).1
          clear hcn han
          have hMx := (HNm.out x (by omega)).1
          have hMy := (HNm.out y (by omega)).1
          have hbs : b.size ≤ 3000 := by
            have h1 := txF_len (K := K) (M := M) (N := N) (A := A) (B := B) (fun i hi => (HNm.out i hi).1) k (fun i hi => by have := HEn.out i (by omega); omega)
            rw [HBt.out]
            show (txF N M K A B k).toArray.size ≤ 3000
            simp
            omega
          have k0 : ∀ z : Cls wr, z.u.cell? ⟨w.heap.size, 0, none⟩ = some (.slice (some ⟨bn, on, none⟩) N nc) := fun z => z.cell hc0
          have k1 : ∀ z : Cls wr, z.u.cell? ⟨w.heap.size, 1, none⟩ = some (.slice (some ⟨bf, of, none⟩) F fc) := fun z => z.cell hc1
          have k2 : ∀ z : Cls wr, z.u.cell? ⟨bn, on + x * 2, none⟩ = some (.string (M x)) := fun z => z.cell hnx
          have k3 : ∀ z : Cls wr, z.u.cell? ⟨bn, on + y * 2, none⟩ = some (.string (M y)) := fun z => z.cell hny
          have k4 : ∀ z : Cls wr, z.u.cell? ⟨bf, of + k * 2, none⟩ = some (.int .i64 x) := fun z => z.cell hf1
          have k5 : ∀ z : Cls wr, z.u.cell? ⟨bf, of + k * 2 + 1, none⟩ = some (.int .i64 y) := fun z => z.cell hf2
          have _hne := cls_some wr
          go_wp2
          refine wp_region_cls (by kernel_rfl) (by kernel_rfl) ?_
          repeat (go_big_quiet_step (fail))
          refine wpQuiet_nil ?_
          rintro _ ⟨z, rfl⟩
          have HBy : Hid (Below W.heap.size W z.u) := HBr.out.trans (z.h.mono HBr.out.size)
          have HNx : Hid (b ++ (⟨#[102, 108, 111, 119, 32]⟩ ++ M x ++ ⟨#[32]⟩ ++ M y ++ ⟨#[10]⟩) = byt (txF N M K A B (k + 1))) := by
            show _ = _
            rw [HBt.out, txF, lnF_words', hx, hy]
            apply ByteArray.ext
            simp [byt]
          generalize b ++ (⟨#[102, 108, 111, 119, 32]⟩ ++ M x ++ ⟨#[32]⟩ ++ M y ++ ⟨#[10]⟩) = b' at *
          clear k0 k1 k2 k3 k4 k5
          go_wp2
          go_roundw
          case rel => exact ⟨k + 1, b', by omega, by go_num, rfl, HNx, HBy⟩
          case measure => simp [intOf]; omega
        · obtain rfl : F = k := by omega
          have HF : Hid (Below w.heap.size w wr) := HW.out.1.trans (HBr.out.mono HW.out.1.size)
          rw [HBt.out]
          go_wp2
          go_ret
          exact ⟨rfl, HF.out⟩

end Go.Proofs.YtnpdkpbhkjnbhaaDoor
