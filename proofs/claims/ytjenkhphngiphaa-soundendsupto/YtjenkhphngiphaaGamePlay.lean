/- Play. -/
import Derived.Test.YtjenkhphngiphaaGameWalk
import Derived.Deep.RegionHeld3
namespace Go.Proofs.Ytjenkhphngiphaa
open Go.RowKit

/-- The error of Fire at a marking. -/
def FErr (K A B : Nat → Int) (F : Nat) (l : List St3) (m : Nat → Int) (step y : Int) : Prop :=
  (¬ (0 ≤ step ∧ step < l.length) ∧ y = 1) ∨ ((0 ≤ step ∧ step < l.length) ∧ ¬ enb K A B F m (l.getD step.toNat (0, 0, 0)) ∧ y = 9) ∨
    ((0 ≤ step ∧ step < l.length) ∧ enb K A B F m (l.getD step.toNat (0, 0, 0)) ∧ (∃ j, j < F ∧ 9 < frs K A B (l.getD step.toNat (0, 0, 0)) m j) ∧ y = 7)

theorem ferr_nz {K A B : Nat → Int} {F : Nat} {l : List St3} {m : Nat → Int} {step y : Int} (h : FErr K A B F l m step y) : y ≠ 0 := by
  rcases h with ⟨_, rfl⟩ | ⟨_, _, rfl⟩ | ⟨_, _, _, rfl⟩ <;> decide

theorem fi_cases {b0 : Nat} {K A B : Nat → Int} {F : Nat} {l : List St3} {m : Nat → Int} {step : Int} {e : Ending} {w : World} (h : FiIs b0 K A B F l m step e w) :
    (∃ y, FErr K A B F l m step y ∧ e = .returned (.tuple #[.slice none 0 0, .int .i64 y])) ∨
      ((0 ≤ step ∧ step < l.length) ∧ enb K A B F m (l.getD step.toNat (0, 0, 0)) ∧ (∀ j, j < F → frs K A B (l.getD step.toNat (0, 0, 0)) m j ≤ 9) ∧ ∃ g c, e = .returned (.tuple #[.slice (some ⟨g, 0, none⟩) F c, .int .i64 0]) ∧ Mk w g F (frs K A B (l.getD step.toNat (0, 0, 0)) m)) := by
  rcases h with ⟨h1, rfl⟩ | ⟨h1, ⟨h2, rfl⟩ | ⟨h2, h3, rfl⟩ | ⟨h2, h3, g, c, _, h4⟩⟩
  · exact Or.inl ⟨1, Or.inl ⟨h1, rfl⟩, rfl⟩
  · exact Or.inl ⟨9, Or.inr (Or.inl ⟨h1, h2, rfl⟩), rfl⟩
  · exact Or.inl ⟨7, Or.inr (Or.inr ⟨h1, h2, h3, rfl⟩), rfl⟩
  · exact Or.inr ⟨h1, h2, h3, g, c, h4⟩

/-- What Play answers. -/
def PyIs (E : Int) (K A B : Nat → Int) (F : Nat) (l : List St3) (n : Nat) (d : Nat → Int) (e : Ending) (w : World) : Prop :=
  (E ≠ 0 ∧ e = .returned (.tuple #[.slice none 0 0, .int .i64 0, .int .i64 E])) ∨ (E = 0 ∧ 500 < n ∧ e = .returned (.tuple #[.slice none 0 0, .int .i64 0, .int .i64 2])) ∨
    (E = 0 ∧ n ≤ 500 ∧ ∃ (k : Nat) (Ms : Nat → Nat → Int) (ga : Option Addr) (gc : Nat) (y : Int), k ≤ n ∧ (∀ i, i < k → 0 ≤ d i) ∧ Pth K A B F l k Ms (fun i => (d i).toNat) ∧ Gr w ga (k + 1) (fun _ => F) Ms ∧
      e = .returned (.tuple #[.slice ga (k + 1) gc, .int .i64 (k : Nat), .int .i64 y]) ∧ ((k = n ∧ y = 0) ∨ (k < n ∧ FErr K A B F l (Ms k) (d k) y)))

structure Pld (W wr : World) (K A B : Nat → Int) (F : Nat) (l : List St3) (d : Nat → Int) (k : Nat) (v : Value) (Ms : Nat → Nat → Int) (G : Nat → Nat) : Prop where
  below : Below W.heap.size W wr
  mrs : Mrs wr W.heap.size v F (k + 1) Ms G
  pos : ∀ i, i < k → 0 ≤ d i
  pth : Pth K A B F l k Ms (fun i => (d i).toNat)

theorem Pld.app {W wr w4 w6 : World} {K A B : Nat → Int} {F : Nat} {l : List St3} {d : Nat → Int} {k g c : Nat} {v v' : Value} {Ms : Nat → Nat → Int} {G : Nat → Nat} {Vs : List Value} {o : Obj} (h : Pld W wr K A B F l d k v Ms G) (hb : Below wr.heap.size wr w4)
    (h1 : 0 ≤ d k ∧ d k < l.length) (h2 : enb K A B F (Ms k) (l.getD (d k).toNat (0, 0, 0))) (h3 : ∀ j, j < F → frs K A B (l.getD (d k).toNat (0, 0, 0)) (Ms k) j ≤ 9) (hm : Mk w4 g F (frs K A B (l.getD (d k).toNat (0, 0, 0)) (Ms k)))
    (hV : w4.ownsRow W.heap.size 26 1 v (k + 1) Vs ∧ ∀ i, i < k + 1 → ∃ c, Vs[i]? = some (.slice (some ⟨G i, 0, none⟩) F c))
    (hown : w6.ownsRow W.heap.size 26 1 v' (k + 1 + 1) (Vs ++ [.slice (some ⟨g, 0, none⟩) F c])) (hgrow : (w4.alloc o).grownBy w6 v.ownBlock) :
    (∃ a c, v' = .slice a (k + 1 + 1) c) ∧ Hid (Pld W w6 K A B F l d (k + 1) v' (fun i => if i = k + 1 then frs K A B (l.getD (d k).toNat (0, 0, 0)) (Ms k) else Ms i) (fun i => if i = k + 1 then g else G i)) := by
  have hg : w4.grownBy w6 v.ownBlock := (World.grownBy_alloc _ _ _).trans hgrow
  obtain ⟨h4, h5⟩ := Mrs.app (h.mrs.below hb) hV hm hown hgrow
  have hb4 : Below W.heap.size W w4 := h.below.trans (hb.mono h.below.size)
  refine ⟨h4, hid ⟨hb4.grown hg hb4.size (fun b hb => (hV.1.lt b hb).1), h5.out, snoc_all h.pos h1.1, ?_⟩⟩
  have := h.pth.snoc (s := (d k).toNat) (by omega) h2 h3
  have e : (fun i => if i = k then (d k).toNat else (d i).toNat) = fun i => (d i).toNat := by
    funext i
    by_cases e : i = k
    · subst e; simp
    · simp [e]
  rw [e] at this
  exact this

set_option maxHeartbeats 4000000 in
theorem play_any {na fa : Option Addr} {N nc F fc : Nat} {M : Nat → ByteArray} {K A B : Nat → Int} {e0 : Int} {w : World} (hp : Prc w na N nc fa F M K A B) (he : ChkIs N F M K A B e0) {da : Option Addr} {n dc : Nat} {d : Nat → Int} (hn : n ≤ 140737488355328) (hd : Row w da n d) :
    Calls Try.prog 12 #[.agg #[.slice na N nc, .slice fa F fc], .slice da n dc] w fun e w' => Below w.heap.size w w' ∧ PyIs (spE e0 (stAll K A B F N).length) K A B F (stAll K A B F N) n d e w' := by
  have HD : Hid (Row w da n d) := hd
  obtain ⟨i1, hi, hz0, hz1, hz2⟩ := info_parts Try.info26
  have HI1 : Hid (Try.prog.info? 26 = some i1 ∧ i1.zero = some (.slice none 0 0) ∧ i1.size = 1 ∧ i1.bytes = 24) := ⟨hi, hz0, hz1, hz2⟩
  clear hi hz0 hz1 hz2
  obtain ⟨W, eW⟩ : ∃ x, x = w.alloc (.cells #[.slice na N nc, .slice fa F fc] 25) := ⟨_, rfl⟩
  have HW : Hid (Below w.heap.size w W) := by subst eW; exact box_below _ _
  have HEW : Hid (w.alloc (.cells #[.slice na N nc, .slice fa F fc] 25) = W) := eW.symm
  have C1 : Hid (Calls Try.prog 35 #[.agg #[.slice na N nc, .slice fa F fc]] W fun e w' => Below W.heap.size W w' ∧ LyIs W.heap.size (spE e0 (stAll K A B F N).length) N F M K A B e w') := lay_any (hp.below HW.out) he
  clear eW hp he hd
  generalize hEE : spE e0 (stAll K A B F N).length = E at *
  clear hEE
  go_enter Try.func12, Try.ntmps12
  go_wp2_with fail
  rw [HEW.out]
  refine C1.out.mono ?_
  rintro e w1 ⟨hb1, hs1⟩
  have HBw1 : Hid (Below w.heap.size w w1) := HW.out.trans (hb1.mono HW.out.size)
  clear hb1 C1
  rcases hs1 with ⟨h1, rfl⟩ | ⟨h1, na, nc, fa, fc, sa, sc, ib, ob, _, _, rfl, hbrd⟩
  · have hz' : (E != 0) = true := by rw [bne_iff_ne]; exact h1
    have HZ : Hid (E ≠ 0) := h1
    clear h1
    go_wp2
    go_ret3
    exact ⟨HBw1.out.alloc HBw1.out.size _, Or.inl ⟨HZ.out, rfl⟩⟩
  · subst h1
    obtain ⟨la, hla⟩ : ∃ q, q = stAll K A B F N := ⟨_, rfl⟩
    have HLa : Hid (la = stAll K A B F N) := hla
    by_cases h500 : 500 < n
    · have h5i : (500 : Int) < n := by omega
      clear hbrd
      go_wp2
      go_ret3
      exact ⟨HBw1.out.alloc HBw1.out.size _, Or.inr (Or.inl ⟨rfl, h500, rfl⟩)⟩
    · have h5i : ¬ (500 : Int) < n := by omega
      obtain ⟨W2, eW2⟩ : ∃ x, x = w1.alloc (.cells #[.slice na N nc, .slice fa F fc, .slice sa (stAll K A B F N).length sc, .slice (some ⟨ib, 0, none⟩) N N, .slice (some ⟨ob, 0, none⟩) N N] 85) := ⟨_, rfl⟩
      have HW2 : Hid (Below w1.heap.size w1 W2 ∧ W2.heap.size = w1.heap.size + 1) := by subst eW2; exact ⟨box_below _ _, by simp⟩
      have HBw2 : Hid (Below w.heap.size w W2) := HBw1.out.trans (HW2.out.1.mono HBw1.out.size)
      have HEW2 : Hid (w1.alloc (.cells #[.slice na N nc, .slice fa F fc, .slice sa (stAll K A B F N).length sc, .slice (some ⟨ib, 0, none⟩) N N, .slice (some ⟨ob, 0, none⟩) N N] 85) = W2) := eW2.symm
      have HBx : Hid (∀ u, Below W2.heap.size W2 u → u.cell? ⟨w1.heap.size, 0, none⟩ = some (.slice na N nc) ∧ u.cell? ⟨w1.heap.size, 1, none⟩ = some (.slice fa F fc) ∧ u.cell? ⟨w1.heap.size, 2, none⟩ = some (.slice sa (stAll K A B F N).length sc) ∧ u.cell? ⟨w1.heap.size, 3, none⟩ = some (.slice (some ⟨ib, 0, none⟩) N N) ∧ u.cell? ⟨w1.heap.size, 4, none⟩ = some (.slice (some ⟨ob, 0, none⟩) N N)) := fun u hu => by
        subst eW2
        exact ⟨new_alloc hu rfl, new_alloc hu rfl, new_alloc hu rfl, new_alloc hu rfl, new_alloc hu rfl⟩
      have HBrd : Hid (Brd W2 na N nc fa F sa (some ⟨ib, 0, none⟩) (some ⟨ob, 0, none⟩) M K A B (stAll K A B F N)) := hbrd.below HW2.out.1
      have C2 : Hid (Calls Try.prog 36 #[.agg #[.slice na N nc, .slice fa F fc, .slice sa (stAll K A B F N).length sc, .slice (some ⟨ib, 0, none⟩) N N, .slice (some ⟨ob, 0, none⟩) N N]] W2 fun e w' => Below W2.heap.size W2 w' ∧ ∃ g, e = .returned (.slice (some ⟨g, 0, none⟩) F F) ∧ w'.rowIs g 3 F (fun i => .int .i64 (bgn K A i))) := begin_any HBrd.out
      have hF30 : F ≤ 30 := (chk_zero hbrd.chk).1.2
      rw [← hla] at HBx HBrd C2 HEW2
      clear eW2 hbrd
      rw [← hla]
      clear hla
      go_wp2_with fail
      rw [HEW2.out]
      refine C2.out.mono ?_
      rintro e w2 ⟨hb2, g0, rfl, hr2⟩
      have HB2 : Hid (Below W2.heap.size W2 w2) := hb2
      have HS0 : Hid (Pld W2 (w2.alloc (.cells #[.slice (some ⟨g0, 0, none⟩) F F] 26)) K A B F la d 0 (.slice (some ⟨w2.heap.size, 0, none⟩) 1 1) (fun _ => bgn K A) (fun _ => g0)) :=
        ⟨hb2.alloc hb2.size _, mrs_start hb2.size ⟨F, _, Nat.le_refl _, hr2, fun _ _ => rfl⟩, (fun i hi => by omega), pth_zero K A B F _ _⟩
      clear hb2 hr2 C2
      go_wp2
      go_loopw [9, 30] (fun v i wr => ∃ (k : Nat) (ga : Option Addr) (gc : Nat) (Ms : Nat → Nat → Int) (G : Nat → Nat), k ≤ n ∧ i = .int .i64 k ∧ v = .slice ga (k + 1) gc ∧ Hid (Pld W2 wr K A B F la d k (.slice ga (k + 1) gc) Ms G)) (fun _ i _ => n - (intOf i).toNat)
      case atStart => exact ⟨0, _, _, _, _, Nat.zero_le _, rfl, rfl, HS0.out⟩
      case round =>
        obtain ⟨k, ga, gc, Ms, G, hk, rfl, rfl, HT⟩ := hrel
        clear HS0
        have HBr : Hid (Below w.heap.size w wr) := HBw2.out.trans (HT.out.below.mono HBw2.out.size)
        by_cases hlt : k < n
        · obtain ⟨b, o, ha, hc⟩ := HD.out
          obtain rfl := ha (by omega)
          have hdk := row_at hc HBr.out hlt
          obtain ⟨a0, a1, a2, a3, a4⟩ := HBx.out wr HT.out.below
          obtain ⟨gb, go, hga, hgc⟩ := HT.out.mrs.gr
          obtain rfl := hga (by omega)
          obtain ⟨ma, mc, hgk, hrk⟩ := hgc k (by omega)
          have HRk : Hid (Row wr ma F (Ms k)) := hrk
          have hk1 : (k : Int) < (k : Int) + 1 := by omega
          have C3 : Hid (∀ u, Below wr.heap.size wr u → Calls Try.prog 37 #[.agg #[.slice na N nc, .slice fa F fc, .slice sa la.length sc, .slice (some ⟨ib, 0, none⟩) N N, .slice (some ⟨ob, 0, none⟩) N N], .slice ma F mc, .int .i64 (d k)] u fun e w' => Below u.heap.size u w' ∧ FiIs u.heap.size K A B F la (Ms k) (d k) e w') := fun u hu => fire_any ((HBrd.out.below HT.out.below).below hu) (HRk.out.below hu) (HT.out.pth.ok k (Nat.le_refl _)) (d k)
          clear hc ha hgc hga hrk
          go_wp2
          go_region_held3 (fun z => z.cell? ⟨w1.heap.size, 0, none⟩ = some (.slice na N nc) ∧ z.cell? ⟨w1.heap.size, 1, none⟩ = some (.slice fa F fc) ∧ z.cell? ⟨w1.heap.size, 2, none⟩ = some (.slice sa la.length sc) ∧ z.cell? ⟨w1.heap.size, 3, none⟩ = some (.slice (some ⟨ib, 0, none⟩) N N) ∧ z.cell? ⟨w1.heap.size, 4, none⟩ = some (.slice (some ⟨ob, 0, none⟩) N N) ∧ z.cell? ⟨gb, go + k, none⟩ = some (.slice ma F mc))
            (first | (exact ⟨by assumption, by assumption, by assumption, by assumption, by assumption, by assumption⟩) | go_keep)
            (first | (go_at_call 37; refine (C3.out _ (below_drew_iff.2 (Below.refl _ _))).mono ?_; rintro e w5 ⟨hb5, hf5⟩; obtain ⟨v1, v2, rfl⟩ := fi_tuple hf5; have hb5' : Below wr.heap.size wr w5 := (below_drew_iff.2 (Below.refl _ _)).trans hb5; obtain ⟨x0, x1, x2, x3, x4⟩ := HBx.out w5 (HT.out.below.trans (hb5'.mono HT.out.below.size)); have x5 : w5.cell? ⟨gb, go + k, none⟩ = some (.slice ma F mc) := (hb5'.cell (p := ⟨gb, go + k, none⟩) (World.block_lt_of_cell? _ _ hgk)).trans hgk; dsimp only))
          have HB5 : Hid (Below wr.heap.size wr w5) := hb5'
          have HBw5 : Hid (Below w.heap.size w w5) := HBr.out.trans (hb5'.mono HBr.out.size)
          rcases fi_cases hf5 with ⟨y, hy, he⟩ | ⟨h1, h2, h3, g5, c5, he, hm5⟩
          · cases he
            have HY : Hid (FErr K A B F la (Ms k) (d k) y) := hy
            have hy' : (y != 0) = true := by rw [bne_iff_ne]; exact ferr_nz hy
            have HF : Hid (Gr w5 (some ⟨gb, go, none⟩) (k + 1) (fun _ => F) Ms) := HT.out.mrs.gr.below HB5.out
            clear hf5 hb5 hb5' hy C3
            go_wp2
            go_ret3
            rw [← HLa.out]
            exact ⟨HBw5.out, Or.inr (Or.inr ⟨rfl, by omega, k, Ms, _, gc, y, hk, HT.out.pos, HT.out.pth, HF.out, rfl, Or.inr ⟨hlt, HY.out⟩⟩)⟩
          · cases he
            have HS5 : Hid ((0 ≤ d k ∧ d k < la.length) ∧ enb K A B F (Ms k) (la.getD (d k).toNat (0, 0, 0)) ∧ (∀ j, j < F → frs K A B (la.getD (d k).toNat (0, 0, 0)) (Ms k) j ≤ 9) ∧ Mk w5 g5 F (frs K A B (la.getD (d k).toNat (0, 0, 0)) (Ms k))) := ⟨h1, h2, h3, hm5⟩
            obtain ⟨Vs, hVs⟩ := (HT.out.mrs.below HB5.out).own
            have HVs : Hid (w5.ownsRow W2.heap.size 26 1 (.slice (some ⟨gb, go, none⟩) (k + 1) gc) (k + 1) Vs ∧ ∀ i, i < k + 1 → ∃ c, Vs[i]? = some (.slice (some ⟨G i, 0, none⟩) F c)) := hVs
            have HSz5 : Hid (W2.heap.size ≤ w5.heap.size) := Nat.le_trans HT.out.below.size HB5.out.size
            clear hf5 hb5 hb5' h1 h2 h3 hm5 hVs C3 x0 x1 x2 x3 x4 x5 a0 a1 a2 a3 a4 hgk
            go_wp2_with (at_builtin; refine wpList_append_own_at _ rfl _ _ 32 rfl W2.heap.size 26 i1 (.slice none 0 0) 1 24 Try.underlying32 HI1.out.1 HI1.out.2.1 HI1.out.2.2.1 HI1.out.2.2.2 rfl (by decide) _ _ _ rfl (HVs.out.1.alloc _) ⟨w5.heap.size, 0, none⟩ 1 1 [.slice (some ⟨g5, 0, none⟩) F c5] rfl rfl (World.news_of_block (cs := #[.slice (some ⟨g5, 0, none⟩) F c5]) (t := 26) (fr := (0, 0)) (heap_alloc_new w5 _)) (by simp [Value.oneCell']) (by unfold maxLen; omega) (by omega) (by have := HSz5.out; simp; omega) ?_; intro v6 w6 hown6 hgrow6 _ _; obtain ⟨⟨a6, c6, rfl⟩, H6⟩ := Pld.app HT.out HB5.out HS5.out.1 HS5.out.2.1 HS5.out.2.2.1 HS5.out.2.2.2 HVs.out hown6 hgrow6; clear hown6 hgrow6)
            go_roundw
            case rel => exact ⟨k + 1, a6, c6, _, _, by omega, by go_num, rfl, H6.out⟩
            case measure => simp [intOf]; omega
        · obtain rfl : n = k := by omega
          go_wp2
          go_ret3
          rw [← HLa.out]
          exact ⟨HBr.out, Or.inr (Or.inr ⟨rfl, by omega, n, Ms, ga, gc, 0, Nat.le_refl _, HT.out.pos, HT.out.pth, HT.out.mrs.gr, rfl, Or.inl ⟨rfl, rfl⟩⟩)⟩

end Go.Proofs.Ytjenkhphngiphaa
