/- Print, walked. -/
import Derived.Test.YtnpdkpbhkjnbhaaDoorPrint
import Derived.Test.YtnpdkpbhkjnbhaaDoorShelf
import Derived.Deep.RegionHeld3
namespace Go.Proofs.YtnpdkpbhkjnbhaaDoor
open Go.RowKit

theorem bd_same {u v : World} {B b : Nat} {l : List UInt8} (h : Bd u B b l) (e : v.heap = u.heap) : Bd v B b l := by
  have one : ∀ p, Lib.BuilderAt 51 5 B b p (bys l) u → Lib.BuilderAt 51 5 B b p (bys l) v := fun p ⟨h1, x, h2, h3, h4⟩ =>
    ⟨h1, x, by rw [e]; exact h2, ⟨h3.1, by rw [e]; exact h3.2⟩, h4⟩
  rcases h with h | h
  · exact Or.inl (one _ h)
  · exact Or.inr (one _ h)

/-- The line of a node, at the call's own world. -/
theorem line_at {V u : World} {B b : Nat} {l : List UInt8} (T : Nat → ByteArray) (n : Nat) (cs : Array Value) (h : Bd V B b l) (hBV : B ≤ V.heap.size) (hbV : b < V.heap.size) (e : u.heap = (V.alloc (.cells cs 9)).heap) (hc : ∀ i, i < n → cs[i]? = some (.string (T i)))
    (hn : n ≤ 100) (hl : l.length + wordsLen T n + 1 ≤ 140737488355328) (hos : u.os = V.os ∧ u.tape = V.tape ∧ u.output = V.output) :
    Calls Tryd.prog 20 #[.pointer (some ⟨b, 0, none⟩), .slice (some ⟨V.heap.size, 0, none⟩) n n] u fun e w' => e = .returned (.tuple #[]) ∧ Bd w' B b (l ++ (wordsTo T n ++ [10])) ∧ Below B V w' ∧ Fr b V w' := by
  have hx : u.heap[V.heap.size]? = some (.cells cs 9 (0, 0)) := by rw [e]; exact Go.Deep.blk_alloc_new _ _
  have hs : u.heap.size = V.heap.size + 1 := by rw [e]; simp
  refine (writeLine_any T n cs (bd_same (bd_alloc h _) e) (by omega) (by omega) hx hc hn hl).mono ?_
  rintro en w' ⟨he, h1, h2, h3⟩
  have hB : Below B V u := ⟨hos.1, hos.2.1, hos.2.2, by omega, fun k hk => by rw [e]; exact Go.Deep.blk_alloc_lt _ _ _ (by omega)⟩
  have hF : Fr b V u := ⟨by omega, fun k c t z _ _ hk => by rw [e]; exact (Go.Deep.blk_alloc_lt _ _ _ (Array.getElem?_eq_some_iff.1 hk).1).trans hk⟩
  exact ⟨he, h1, hB.trans h2, hF.trans h3⟩

set_option maxHeartbeats 4000000 in
theorem print_any (na fa : Option Addr) (N nc F fc : Nat) (M : Nat → ByteArray) (K A B : Nat → Int) (e0 : Int) (w : World) (hp : Prc w na N nc fa F M K A B) (he : ChkIs N F M K A B e0) (hkw : KwAt w) :
    Calls Tryd.prog 8 #[.agg #[.slice na N nc, .slice fa F fc]] w fun e w' => PrIs N F M K A B e0 e ∧ Below w.heap.size w w' := by
  have HE : Hid (ChkIs N F M K A B e0) := he
  have HP : Hid (Prc w na N nc fa F M K A B) := hp
  have HK0 : Hid (KwAt w ∧ 0 < w.heap.size) := ⟨hkw, by obtain ⟨cs, z, h1, _⟩ := hkw; exact (Array.getElem?_eq_some_iff.1 h1).1⟩
  have hNN := hp.nN
  have hFF := hp.nF
  clear he hp hkw
  obtain ⟨W, eW⟩ : ∃ x, x = w.alloc (.cells #[.slice na N nc, .slice fa F fc] 25) := ⟨_, rfl⟩
  have HW : Hid (Below w.heap.size w W ∧ W.heap.size = w.heap.size + 1) := by subst eW; exact ⟨box_below _ _, by simp⟩
  have HBx : Hid (∀ w1, Below W.heap.size W w1 → w1.cell? ⟨w.heap.size, 0, none⟩ = some (.slice na N nc) ∧ w1.cell? ⟨w.heap.size, 1, none⟩ = some (.slice fa F fc)) := fun w1 h => by
    have h' : Below (w.heap.size + 1) (w.alloc (.cells #[.slice na N nc, .slice fa F fc] 25)) w1 := by rw [← HW.out.2, ← eW]; exact h
    exact ⟨box_keep h' rfl, box_keep h' rfl⟩
  have HEW : Hid (w.alloc (.cells #[.slice na N nc, .slice fa F fc] 25) = W) := eW.symm
  have HPW : Hid (Prc W na N nc fa F M K A B) := HP.out.below HW.out.1
  clear eW
  have C1 : Hid (Calls Tryd.prog 13 #[.agg #[.slice na N nc, .slice fa F fc]] W fun e w' => e = .returned (.int .i64 e0) ∧ Below W.heap.size W w') := procCheck_any na fa N nc F fc M K A B e0 W HPW.out HE.out
  go_enter Tryd.func8, Tryd.ntmps8
  go_wp2_with fail
  rw [HEW.out]
  refine C1.out.mono ?_
  rintro e w1 ⟨rfl, hb1⟩
  have HB1 : Hid (Below W.heap.size W w1) := hb1
  have HBw1 : Hid (Below w.heap.size w w1) := HW.out.1.trans (hb1.mono HW.out.1.size)
  obtain ⟨hc0, hc1⟩ := HBx.out w1 hb1
  clear hb1 C1
  by_cases hz : e0 = 0
  · subst hz
    have hch := chk_zero HE.out
    have hN20 : N ≤ 20 := hch.1.1
    have hF30 : F ≤ 30 := hch.1.2
    have HNm : Hid (∀ i, i < N → (M i).size ≤ 8 ∧ (1 ≤ K i ∧ K i ≤ 7)) := fun i hi => ⟨nameOk_size (nodes_names hch.2.1 i hi).1, (nodes_names hch.2.1 i hi).2⟩
    have HEn : Hid (∀ i, i < F → (0 ≤ A i ∧ A i < N) ∧ (0 ≤ B i ∧ B i < N)) := endsOk_all hch.2.2.1
    clear hch
    obtain ⟨b, hb⟩ : ∃ b, b = w1.heap.size := ⟨_, rfl⟩
    obtain ⟨U, eU⟩ : ∃ x, x = w1.alloc (.cells #[.pointer none, .slice none 0 0] 51) := ⟨_, rfl⟩
    have HU : Hid (Bd U b b [] ∧ Below b w1 U ∧ U.heap.size = b + 1) := by subst eU; subst hb; exact ⟨bd_start w1, box_below _ _, by simp⟩
    have HUe : Hid (w1.alloc (.cells #[.pointer none, .slice none 0 0] 51) = U) := eU.symm
    have Hb : Hid (w1.heap.size = b) := hb.symm
    have HBU : Hid (Below W.heap.size W U) := HB1.out.trans (HU.out.2.1.mono (by rw [hb]; exact HB1.out.size))
    have hWb : Hid (W.heap.size ≤ b) := by show _ ≤ _; rw [hb]; exact HB1.out.size
    have hv := HBx.out U HBU.out
    rw [eU] at hv
    obtain ⟨hv0, hv1⟩ := hv
    clear eU hb hc0 hc1
    go_wp2
    rw [HUe.out, Hb.out]
    clear hv0 hv1
    go_loopw [18] (fun i wr => ∃ k : Nat, k ≤ N ∧ i = .int .i64 k ∧ Hid (Bd wr b b (txN M K k) ∧ Below b w1 wr ∧ b < wr.heap.size)) (fun i _ => N - (intOf i).toNat)
    case atStart => exact ⟨0, Nat.zero_le _, rfl, hid ⟨HU.out.1, HU.out.2.1, by have := HU.out.2.2; omega⟩⟩
    case round =>
      obtain ⟨k, hk, rfl, HS⟩ := hrel
      have HBr : Hid (Below W.heap.size W wr) := HB1.out.trans (HS.out.2.1.mono hWb.out)
      obtain ⟨hc0, hc1⟩ := HBx.out wr HBr.out
      by_cases hlt : k < N
      · obtain ⟨bn, on, han, hcn⟩ := HPW.out.nds
        obtain rfl := han (by omega)
        obtain ⟨hn1, hn2⟩ := Nds.at hcn HBr.out hlt
        clear hcn han
        have hkz : (k : Int) < N := by omega
        obtain ⟨hM8, hK1, hK7⟩ := HNm.out k hlt
        obtain ⟨κ, hκ⟩ : ∃ x : Nat, K k = x := ⟨(K k).toNat, by omega⟩
        rw [hκ] at hn2 hK1 hK7
        have HT : Hid (txN M K (k + 1) = txN M K k ++ (wordsTo (nodeW M K k) 2 ++ [10])) := rfl
        have HNW : Hid (∀ i, i < 2 → (#[Value.string (kw κ), Value.string (M k)] : Array Value)[i]? = some (.string (nodeW M K k i))) := by
          intro i hi
          match i, hi with
          | 0, _ => simp [nodeW, hκ]
          | 1, _ => simp [nodeW]
        have HLn : Hid ((txN M K k).length + wordsLen (nodeW M K k) 2 + 1 ≤ 140737488355328) := by
          have h1 := txN_len (K := K) k (fun i hi => (HNm.out i (by omega)).1)
          have h2 := nodeW_len (K := K) (k := k) hM8
          show _ ≤ _
          omega
        obtain ⟨V, eV⟩ : ∃ x, x = wr.alloc (.cells #[.string (M k), .int .i64 κ] 39) := ⟨_, rfl⟩
        have HV : Hid (Bd V b b (txN M K k) ∧ Below b w1 V ∧ b < V.heap.size ∧ V.heap.size = wr.heap.size + 1 ∧ V.heap[wr.heap.size]? = some (.cells #[.string (M k), .int .i64 κ] 39 (0, 0))) := by
          subst eV
          exact ⟨bd_alloc HS.out.1 _, HS.out.2.1.alloc (by have := HS.out.2.2; omega) _, by simp; have := HS.out.2.2; omega, by simp, Go.Deep.blk_alloc_new _ _⟩
        have HVe : Hid (wr.alloc (.cells #[.string (M k), .int .i64 κ] 39) = V) := eV.symm
        have hd0 : V.cell? ⟨wr.heap.size, 0, none⟩ = some (.string (M k)) := cell_of_cells HV.out.2.2.2.2 rfl
        have hd1 : V.cell? ⟨wr.heap.size, 1, none⟩ = some (.int .i64 κ) := cell_of_cells HV.out.2.2.2.2 rfl
        have HKV : Hid (∀ u, Below b w1 u → u.cell? ⟨0, κ, none⟩ = some (.string (kw κ))) := fun u hu => by
          have h1 : KwAt w1 := HK0.out.1.below HBw1.out HK0.out.2
          have h0 : 0 < b := by have := hWb.out; have := HW.out.2; omega
          exact (h1.below hu h0).cell (by omega)
        have hdk := HKV.out V HV.out.2.1
        have CL : Hid (∀ u : World, u.heap = (V.alloc (.cells #[.string (kw κ), .string (M k)] 9)).heap → (u.os = V.os ∧ u.tape = V.tape ∧ u.output = V.output) → Calls Tryd.prog 20 #[.pointer (some ⟨b, 0, none⟩), .slice (some ⟨V.heap.size, 0, none⟩) 2 2] u fun e w' => e = .returned (.tuple #[]) ∧ Bd w' b b (txN M K k ++ (wordsTo (nodeW M K k) 2 ++ [10])) ∧ Below b V w' ∧ Fr b V w') :=
          fun u hu ho => line_at (nodeW M K k) 2 _ HV.out.1 (by have := HV.out.2.2.1; omega) HV.out.2.2.1 hu HNW.out (by omega) HLn.out ho
        clear eV hκ HNW HLn
        have hκ8 : (κ : Int) < 8 := by omega
        go_wp2
        rw [HVe.out]
        go_region_held3 (fun w' => w'.cell? ⟨wr.heap.size, 0, none⟩ = some (.string (M k)) ∧ w'.cell? ⟨wr.heap.size, 1, none⟩ = some (.int .i64 κ) ∧ w'.cell? ⟨0, κ, none⟩ = some (.string (kw κ))) (first | go_keep)
          (first | (go_at_call 20; refine (CL.out _ ?_ ?_).mono ?_; (exact rfl); (exact ⟨rfl, rfl, rfl⟩); rintro e w3 ⟨rfl, hbd3, hbl3, hfr3⟩; have hg := hfr3.keep _ _ _ _ (by decide) (by have := HS.out.2.2; omega) HV.out.2.2.2.2; have hg0 : w3.cell? ⟨wr.heap.size, 0, none⟩ = some (.string (M k)) := cell_of_cells hg rfl; have hg1 : w3.cell? ⟨wr.heap.size, 1, none⟩ = some (.int .i64 κ) := cell_of_cells hg rfl; have hgk := HKV.out w3 (HV.out.2.1.trans hbl3)))
        have H3 : Hid (Bd w3 b b (txN M K (k + 1)) ∧ Below b w1 w3 ∧ b < w3.heap.size) := ⟨by rw [HT.out]; exact hbd3, HV.out.2.1.trans hbl3, by have := HV.out.2.2.1; have := hfr3.size; omega⟩
        clear hbd3 hbl3 hfr3 hg hg0 hg1 hgk hdk hd0 hd1 CL
        go_wp2
        go_roundw
        case rel => exact ⟨k + 1, by omega, by go_num, H3⟩
        case measure => simp [intOf]; omega
      · obtain rfl : N = k := by omega
        have HS2 : Hid (Bd wr b b (txF N M K A B 0) ∧ Below b w1 wr ∧ b < wr.heap.size) := HS.out
        clear HS HBr
        obtain ⟨w5, ew5⟩ : ∃ x, x = wr := ⟨_, rfl⟩
        rw [← ew5] at HS2 hc0 hc1 ⊢
        clear ew5
        go_wp2
        go_loopw [34] (fun i wr => ∃ k : Nat, k ≤ F ∧ i = .int .i64 k ∧ Hid (Bd wr b b (txF N M K A B k) ∧ Below b w1 wr ∧ b < wr.heap.size)) (fun i _ => F - (intOf i).toNat)
        case atStart => exact ⟨0, Nat.zero_le _, rfl, HS2⟩
        case round =>
          obtain ⟨k, hk, rfl, HS⟩ := hrel
          have HBr : Hid (Below W.heap.size W wr) := HB1.out.trans (HS.out.2.1.mono hWb.out)
          clear hc0 hc1
          obtain ⟨hc0, hc1⟩ := HBx.out wr HBr.out
          by_cases hlt : k < F
          · obtain ⟨bf, of, haf, hcf⟩ := HPW.out.fls
            obtain rfl := haf (by omega)
            obtain ⟨hf1, hf2⟩ := Fls.at hcf HBr.out hlt
            clear hcf haf
            have hkz : (k : Int) < F := by omega
            obtain ⟨⟨hA0, hAN⟩, hB0, hBN⟩ := HEn.out k hlt
            obtain ⟨x, hx⟩ : ∃ x : Nat, A k = x := ⟨(A k).toNat, by omega⟩
            obtain ⟨y, hy⟩ : ∃ y : Nat, B k = y := ⟨(B k).toNat, by omega⟩
            rw [hx] at hf1 hA0 hAN
            rw [hy] at hf2 hB0 hBN
            obtain ⟨bn, on, han, hcn⟩ := HPW.out.nds
            obtain rfl := han (by omega)
            have HC : Hid (∀ i, i < N → W.cell? ⟨bn, on + i * 2, none⟩ = some (.string (M i)) ∧ W.cell? ⟨bn, on + i * 2 + 1, none⟩ = some (.int .i64 (K i))) := hcn
            clear hcn han
            have HT : Hid (txF N M K A B (k + 1) = txF N M K A B k ++ (wordsTo (flowW M A B k) 3 ++ [10])) := rfl
            have HNW : Hid (∀ i, i < 3 → (#[Value.string ⟨#[102, 108, 111, 119]⟩, Value.string (M x), Value.string (M y)] : Array Value)[i]? = some (.string (flowW M A B k i))) := by
              intro i hi
              match i, hi with
              | 0, _ => simp [flowW]
              | 1, _ => simp [flowW, hx]
              | 2, _ => simp [flowW, hy]
            have HLn : Hid ((txF N M K A B k).length + wordsLen (flowW M A B k) 3 + 1 ≤ 140737488355328) := by
              have h1 := txF_len (K := K) (M := M) (N := N) (A := A) (B := B) (fun i hi => (HNm.out i hi).1) k (fun i hi => by have := HEn.out i (by omega); omega)
              have h2 := flowW_len (M := M) (A := A) (B := B) (k := k) (HNm.out _ (by rw [hx]; omega)).1 (HNm.out _ (by rw [hy]; omega)).1
              show _ ≤ _
              omega
            obtain ⟨V, eV⟩ : ∃ v, v = wr.alloc (.cells #[.int .i64 x, .int .i64 y] 42) := ⟨_, rfl⟩
            have HV : Hid (Bd V b b (txF N M K A B k) ∧ Below b w1 V ∧ b < V.heap.size ∧ V.heap.size = wr.heap.size + 1 ∧ V.heap[wr.heap.size]? = some (.cells #[.int .i64 x, .int .i64 y] 42 (0, 0))) := by
              subst eV
              exact ⟨bd_alloc HS.out.1 _, HS.out.2.1.alloc (by have := HS.out.2.2; omega) _, by simp; have := HS.out.2.2; omega, by simp, Go.Deep.blk_alloc_new _ _⟩
            have HVe : Hid (wr.alloc (.cells #[.int .i64 x, .int .i64 y] 42) = V) := eV.symm
            have hd0 : V.cell? ⟨wr.heap.size, 0, none⟩ = some (.int .i64 x) := cell_of_cells HV.out.2.2.2.2 rfl
            have hd1 : V.cell? ⟨wr.heap.size, 1, none⟩ = some (.int .i64 y) := cell_of_cells HV.out.2.2.2.2 rfl
            have HNd : Hid (∀ u, Below b w1 u → u.cell? ⟨w.heap.size, 0, none⟩ = some (.slice (some ⟨bn, on, none⟩) N nc) ∧ u.cell? ⟨bn, on + x * 2, none⟩ = some (.string (M x)) ∧ u.cell? ⟨bn, on + y * 2, none⟩ = some (.string (M y))) := fun u hu => by
              have h1 : Below W.heap.size W u := HB1.out.trans (hu.mono hWb.out)
              exact ⟨(HBx.out u h1).1, (Nds.at HC.out h1 (by omega)).1, (Nds.at HC.out h1 (by omega)).1⟩
            obtain ⟨hdp, hdx, hdy⟩ := HNd.out V HV.out.2.1
            have CL : Hid (∀ u : World, u.heap = (V.alloc (.cells #[.string ⟨#[102, 108, 111, 119]⟩, .string (M x), .string (M y)] 9)).heap → (u.os = V.os ∧ u.tape = V.tape ∧ u.output = V.output) → Calls Tryd.prog 20 #[.pointer (some ⟨b, 0, none⟩), .slice (some ⟨V.heap.size, 0, none⟩) 3 3] u fun e w' => e = .returned (.tuple #[]) ∧ Bd w' b b (txF N M K A B k ++ (wordsTo (flowW M A B k) 3 ++ [10])) ∧ Below b V w' ∧ Fr b V w') :=
              fun u hu ho => line_at (flowW M A B k) 3 _ HV.out.1 (by have := HV.out.2.2.1; omega) HV.out.2.2.1 hu HNW.out (by omega) HLn.out ho
            clear eV hx hy HNW HLn HC
            go_wp2
            rw [HVe.out]
            go_region_held3 (fun w' => w'.cell? ⟨wr.heap.size, 0, none⟩ = some (.int .i64 x) ∧ w'.cell? ⟨wr.heap.size, 1, none⟩ = some (.int .i64 y) ∧ w'.cell? ⟨w.heap.size, 0, none⟩ = some (.slice (some ⟨bn, on, none⟩) N nc) ∧ w'.cell? ⟨bn, on + x * 2, none⟩ = some (.string (M x)) ∧ w'.cell? ⟨bn, on + y * 2, none⟩ = some (.string (M y))) (first | go_keep)
              (first | (go_at_call 20; refine (CL.out _ ?_ ?_).mono ?_; (exact rfl); (exact ⟨rfl, rfl, rfl⟩); rintro e w3 ⟨rfl, hbd3, hbl3, hfr3⟩; have hg := hfr3.keep _ _ _ _ (by decide) (by have := HS.out.2.2; omega) HV.out.2.2.2.2; have hg0 : w3.cell? ⟨wr.heap.size, 0, none⟩ = some (.int .i64 x) := cell_of_cells hg rfl; have hg1 : w3.cell? ⟨wr.heap.size, 1, none⟩ = some (.int .i64 y) := cell_of_cells hg rfl; obtain ⟨hgp, hgx, hgy⟩ := HNd.out w3 (HV.out.2.1.trans hbl3)))
            have H3 : Hid (Bd w3 b b (txF N M K A B (k + 1)) ∧ Below b w1 w3 ∧ b < w3.heap.size) := ⟨by rw [HT.out]; exact hbd3, HV.out.2.1.trans hbl3, by have := HV.out.2.2.1; have := hfr3.size; omega⟩
            clear hbd3 hbl3 hfr3 hg hg0 hg1 hgp hgx hgy hdp hdx hdy hd0 hd1 CL HNd
            go_wp2
            go_roundw
            case rel => exact ⟨k + 1, by omega, by go_num, H3⟩
            case measure => simp [intOf]; omega
          · obtain rfl : F = k := by omega
            have CS : Hid (Calls Tryd.prog 21 #[.pointer (some ⟨b, 0, none⟩)] wr fun e w' => e = .returned (.string ⟨(txF N M K A B F).toArray⟩) ∧ Below b wr w') := Tryd.Builder_String_any b b _ wr HS.out.1 (by have := HS.out.2.2; omega)
            have HF0 : Hid (Below w.heap.size w wr ∧ w.heap.size ≤ b) := by
              have h1 := HW.out.1.trans (HBr.out.mono HW.out.1.size)
              have h2 := hWb.out
              have h3 := HW.out.2
              exact ⟨h1, by omega⟩
            go_wp2_with fail
            refine CS.out.mono ?_
            rintro e w6 ⟨rfl, hb6⟩
            have HF1 : Hid (Below w.heap.size w w6) := HF0.out.1.trans (hb6.mono HF0.out.2)
            clear hb6 CS
            go_wp2
            go_ret2
            exact ⟨Or.inr ⟨rfl, rfl⟩, HF1.out⟩
  · have hz' : (e0 != 0) = true := by rw [bne_iff_ne]; exact hz
    have HZ : Hid (e0 ≠ 0) := hz
    clear hz
    go_wp2
    go_ret2
    exact ⟨Or.inl ⟨HZ.out, rfl⟩, HBw1.out⟩

end Go.Proofs.YtnpdkpbhkjnbhaaDoor
