/-   -/
import Derived.Deep.RegionHeld3
import Derived.Deep.WholeRow
import Derived.Deep.MidRow
import Derived.Laws.Bits64b
import Derived.Lib.TrailingZeros
import Derived.Deep.OwnRows
import Derived.Maps.AppendAt
import Derived.Test.YtmdpbaobihdgkaaGreatDoorRows
import Derived.WalkKit
import Derived.WalkSpells
import Derived.WalkLawsBesides
import Derived.Deep.QuietTactic
import Derived.BigQuiet
import Derived.Below
import Derived.Deep.Heap
import Derived.Test.YtmdpbaobihdgkaaGreatDoorRwsJ
import Derived.Test.YtmdpbaobihdgkaaGreatDoorBaseJ
import Derived.Test.YtmdpbaobihdgkaaGreatDoorPshJ
import Derived.Test.YtmdpbaobihdgkaaGreatDoorTeaJ
import Derived.Test.YtmdpbaobihdgkaaGreatDoorWk
import Derived.Test.YtmdpbaobihdgkaaGreatDoorMkfJ
import Derived.Test.YtmdpbaobihdgkaaGreatDoorAStf
/- Is a part fair? -/
/- KOSARAJU, apart from memory: going in depth, and what its order tells of parts. -/
namespace Go.Proofs.YtmdpbaobihdgkaaGreatDoor
open Go.RowKit

/-- The states of the first k spots. -/
def stsN (l : Nat → Nat × Nat) : Nat → Nat → Nat
  | 0 => fun _ => 0
  | k + 1 => sadd (stsN l k) (l k).1
theorem mem_stsN (l : Nat → Nat × Nat) (s : Nat) : ∀ k, mem (stsN l k) s = true ↔ ∃ i, i < k ∧ (l i).1 = s
  | 0 => by simp [stsN, mem_zero]
  | k + 1 => by
    rw [stsN, mem_add, Bool.or_eq_true, mem_stsN l s k, decide_eq_true_eq]
    constructor
    · rintro (h | ⟨i, h1, h2⟩)
      · exact ⟨k, by omega, h.symm⟩
      · exact ⟨i, by omega, h2⟩
    · rintro ⟨i, h1, h2⟩
      by_cases e : i = k
      · subst e; exact Or.inl h2.symm
      · exact Or.inr ⟨i, by omega, h2⟩

/-- Is a part fair? -/
def frs (R : Rx) (n : Nat) (l : Nat → Nat × Nat) : Bool := gos R n l && !anoc R.K R.F (stsN l n)

set_option maxHeartbeats 2000000 in
theorem isFair_any (R : Rx) (a : Option Addr) (n c : Nat) (l : Nat → Nat × Nat) (w : World) (h : Rw w R) (hl : Sp w a n l) (hn : 0 < n) (hn2 : n ≤ 140737488355328) (hok : ∀ i, i < n → (l i).1 < R.G ∧ (l i).2 < R.m) :
    Calls Tryz.prog 78 #[R.val, .slice a n c] w fun e w' => e = .returned (.bool (frs R n l)) ∧ Below w.heap.size w w' := by
  have hg := h.g
  have hk80 := h.k80
  have H0 := hid h
  have HL := hid hl
  have HK := hid hok
  have C := hid (fun (z : World) (hz : Below w.heap.size w z) => goesOn_any R a n c l z (h.below hz) (hl.below hz) hn hn2 hok)
  have E : Hid (frs R n l = (gos R n l && !anoc R.K R.F (stsN l n))) := hid rfl
  clear h hl hok
  generalize hf : frs R n l = fr at *
  clear hf
  generalize hgo : gos R n l = go at *
  clear hgo
  obtain ⟨nb, G, c1, pb, c2, tb, m, c3, fb, K, c4, N, P, T, F⟩ := R
  dsimp only [Rx.val] at *
  go_enter Tryz.func78, Tryz.ntmps78
  go_wp2_with fail
  obtain ⟨W0, hW0, hb0, hs0, hR⟩ := rb_new w nb G c1 pb c2 tb m c3 fb K c4 N P T F
  rw [hW0]
  clear hW0
  obtain ⟨r0, r1, r2, r3⟩ := hR
  dsimp only at r0 r1 r2 r3
  have HB0 := hid hb0
  clear hb0
  have C1 := hid (C.out W0 HB0.out)
  go_wp2_with fail
  refine C1.out.mono ?_
  rintro e w1 ⟨rfl, hb1⟩
  have HB1 := hid (HB0.out.trans (hb1.mono HB0.out.size))
  have q3 := below_cell hb1 (Nat.le_refl _) r3
  have hs1 := hb1.size
  clear hb1 r0 r1 r2 r3
  cases go
  · go_wp2
    go_ret
    refine ⟨ret_bool ?_, HB1.out⟩
    rw [E.out]; rfl
  · go_wp2
    rw [zeroS]
    go_loopw [14] (fun i wr => ∃ k : Nat, k ≤ n ∧ i = .int .i64 k ∧ Hid (Below w1.heap.size w1 wr ∧ Bx wr w1.heap.size (stsN l k))) (fun i _ => n - (intOf i).toNat)
    case atStart => exact ⟨0, by omega, rfl, hid ⟨box_below _ _, bx_new w1 (fun _ => 0) (fun _ _ => by decide)⟩⟩
    case round =>
      obtain ⟨k, hk, rfl, H⟩ := hrel
      by_cases hlt : k < n
      · obtain ⟨b, ha, hc⟩ := (HL.out.below HB1.out).below H.out.1
        obtain rfl := ha (by omega)
        obtain ⟨y1, y2⟩ := hc k hlt
        have hko := HK.out k hlt
        have C2 := hid (fun (o1 : Obj) => addB w1.heap.size (stsN l k) (l k).1 (wr.alloc o1) (by omega) (H.out.2.below (box_below wr o1) (bx_lt H.out.2)))
        clear hc ha
        go_wp2_with fail
        refine (C2.out _).mono ?_
        rintro e w2 ⟨⟨v, rfl⟩, g1, g2, g3⟩
        have HH := hid (And.intro g1 (And.intro g2 g3))
        clear g1 g2 g3
        go_wp2
        go_roundw
        case rel =>
          refine ⟨k + 1, by omega, by go_num, hid ⟨(H.out.1.trans ((box_below wr _).mono H.out.1.size)).trans (HH.out.2.1.below (Nat.le_refl _) ?_), HH.out.1⟩⟩
          have := H.out.1.size
          simp
          omega
        case measure => simp [intOf]; omega
      · have q3' := below_cell H.out.1 (Nat.le_refl _) q3
        obtain rfl : k = n := by omega
        have C3 := hid (cfS_any fb K c4 w1.heap.size F (stsN l k) wr hk80 ((H0.out.below HB1.out).below H.out.1).fair H.out.2 ((H0.out.below HB1.out).below H.out.1).tb)
        go_wp2_with fail
        refine C3.out.mono ?_
        rintro e w2 ⟨rfl, hb2⟩
        have HB2 := hid hb2
        clear hb2
        go_wp2
        go_ret
        refine ⟨ret_bool ?_, HB1.out.trans ((H.out.1.mono (HB1.out.size)).trans (HB2.out.mono (Nat.le_trans HB1.out.size H.out.1.size)))⟩
        rw [E.out]; rfl

end Go.Proofs.YtmdpbaobihdgkaaGreatDoor

namespace Go.Proofs.YtmdpbaobihdgkaaGreatDoor

/-- One comes from x to y, by some goings, none too, within T. -/
def Rt {α : Type} (E : α → α → Prop) (T : α → Prop) (x y : α) : Prop := ∀ P : α → Prop, P x → (∀ u v, P u → E u v → T v → P v) → P y

theorem Rt.refl {α : Type} {E : α → α → Prop} {T : α → Prop} {x : α} : Rt E T x x := fun _ h _ => h
theorem Rt.tail {α : Type} {E : α → α → Prop} {T : α → Prop} {x y z : α} (h : Rt E T x y) (h2 : E y z) (h3 : T z) : Rt E T x z := fun P p0 p1 => p1 y z (h P p0 p1) h2 h3
theorem Rt.ind {α : Type} {E : α → α → Prop} {T : α → Prop} {x : α} {motive : (y : α) → Rt E T x y → Prop} (refl : motive x Rt.refl)
    (tail : ∀ {y z : α} (h1 : Rt E T x y) (h2 : E y z) (h3 : T z), motive y h1 → motive z (h1.tail h2 h3)) {y : α} (h : Rt E T x y) : motive y h := by
  have k : ∃ h' : Rt E T x y, motive y h' := h (fun y => ∃ h' : Rt E T x y, motive y h') ⟨Rt.refl, refl⟩ (fun u v ⟨h1, h4⟩ h2 h3 => ⟨h1.tail h2 h3, tail h1 h2 h3 h4⟩)
  obtain ⟨_, k⟩ := k
  exact k

theorem Rt.trans {α : Type} {E : α → α → Prop} {T : α → Prop} {x y z : α} (h : Rt E T x y) (k : Rt E T y z) : Rt E T x z := by
  induction k using Rt.ind with
  | refl => exact h
  | tail _ h2 h3 ih => exact ih.tail h2 h3
theorem Rt.one {α : Type} {E : α → α → Prop} {T : α → Prop} {x y : α} (h : E x y) (hy : T y) : Rt E T x y := Rt.refl.tail h hy
theorem Rt.mem {α : Type} {E : α → α → Prop} {T : α → Prop} {x y : α} (h : Rt E T x y) (hx : T x) : T y := by
  induction h using Rt.ind with
  | refl => exact hx
  | tail _ _ h3 _ => exact h3

def Sc {α : Type} (E : α → α → Prop) (T : α → Prop) (x y : α) : Prop := Rt E T x y ∧ Rt E T y x
theorem Sc.symm {α : Type} {E : α → α → Prop} {T : α → Prop} {x y : α} (h : Sc E T x y) : Sc E T y x := ⟨h.2, h.1⟩
theorem Sc.trans {α : Type} {E : α → α → Prop} {T : α → Prop} {x y z : α} (h : Sc E T x y) (k : Sc E T y z) : Sc E T x z := ⟨h.1.trans k.1, k.2.trans h.2⟩

/-- Going in depth through T: what is left behind, the path, what was not met yet. -/
structure Dfs {α : Type} (E : α → α → Prop) (T : α → Prop) (done path : List α) (L : α → Prop) : Prop where
  part : ∀ x, T x ↔ (x ∈ done ∨ x ∈ path ∨ L x)
  nd : (done ++ path).Nodup
  off : ∀ x, x ∈ done ∨ x ∈ path → ¬ L x
  chain : path.Pairwise (Rt E T)
  out : ∀ d, d ∈ done → ∀ y, E d y → T y → y ∈ done ∨ y ∈ path
  kos : ∀ d, d ∈ done → ∀ y, Rt E T d y → (∃ A x B, done = A ++ x :: B ∧ y ∈ A ++ [x] ∧ Sc E T x d) ∨ ∃ p, p ∈ path ∧ Sc E T p d

section
variable {α : Type} {E : α → α → Prop} {T : α → Prop} {done path : List α} {L L' : α → Prop}

theorem dfs_nil (h : ∀ x, T x ↔ L x) : Dfs E T [] [] L :=
  ⟨fun x => by simp [h], by simp, fun x hx => by simp at hx, List.Pairwise.nil, fun d hd => by simp at hd, fun d hd => by simp at hd⟩

theorem Dfs.start (h : Dfs E T done [] L) {v : α} (hv : L v) (e : ∀ x, L' x ↔ (L x ∧ x ≠ v)) : Dfs E T done [v] L' := by
  refine ⟨fun x => ?_, ?_, fun x hx hl => ?_, List.pairwise_singleton _ _, fun d hd y h1 h2 => ?_, fun d hd y hy => ?_⟩
  · rw [h.part, e]
    by_cases hx : x = v
    · subst hx; simp [hv]
    · simp [hx]
  · rw [List.nodup_append]
    refine ⟨by simpa using h.nd, by simp, fun a ha b hb => ?_⟩
    rintro rfl
    rw [List.mem_singleton] at hb
    subst hb
    exact h.off _ (Or.inl ha) hv
  · rw [e] at hl
    rcases hx with hx | hx
    · exact h.off x (Or.inl hx) hl.1
    · exact hl.2 (List.mem_singleton.1 hx)
  · rcases h.out d hd y h1 h2 with h3 | h3
    · exact Or.inl h3
    · simp at h3
  · rcases h.kos d hd y hy with h3 | ⟨p, h3, _⟩
    · exact Or.inl h3
    · simp at h3

theorem Dfs.push {P : List α} {t v : α} (h : Dfs E T done (P ++ [t]) L) (hE : E t v) (hv : L v) (e : ∀ x, L' x ↔ (L x ∧ x ≠ v)) : Dfs E T done (P ++ [t] ++ [v]) L' := by
  have hTv : T v := (h.part v).2 (Or.inr (Or.inr hv))
  refine ⟨fun x => ?_, ?_, fun x hx hl => ?_, ?_, fun d hd y h1 h2 => ?_, fun d hd y hy => ?_⟩
  · rw [h.part, e, List.mem_append (t := [v])]
    by_cases hx : x = v
    · subst hx; simp [hv]
    · simp [hx]
  · rw [← List.append_assoc, List.nodup_append]
    refine ⟨h.nd, by simp, fun a ha b hb => ?_⟩
    rintro rfl
    rw [List.mem_singleton] at hb
    subst hb
    exact h.off _ (List.mem_append.1 ha) hv
  · rw [e] at hl
    rcases hx with hx | hx
    · exact h.off x (Or.inl hx) hl.1
    · rcases List.mem_append.1 hx with hx | hx
      · exact h.off x (Or.inr hx) hl.1
      · exact hl.2 (List.mem_singleton.1 hx)
  · rw [List.pairwise_append]
    refine ⟨h.chain, List.pairwise_singleton _ _, fun a ha b hb => ?_⟩
    rw [List.mem_singleton] at hb
    subst hb
    refine Rt.tail ?_ hE hTv
    rcases List.mem_append.1 ha with ha | ha
    · exact (List.pairwise_append.1 h.chain).2.2 a ha t (by simp)
    · rw [List.mem_singleton] at ha; subst ha; exact Rt.refl
  · rcases h.out d hd y h1 h2 with h3 | h3
    · exact Or.inl h3
    · exact Or.inr (List.mem_append.2 (Or.inl h3))
  · rcases h.kos d hd y hy with h3 | ⟨p, h3, h4⟩
    · exact Or.inl h3
    · exact Or.inr ⟨p, List.mem_append.2 (Or.inl h3), h4⟩

theorem Dfs.pop {P : List α} {t : α} (h : Dfs E T done (P ++ [t]) L) (hno : ∀ v, E t v → ¬ L v) : Dfs E T (done ++ [t]) P L := by
  have hTt : T t := (h.part t).2 (Or.inr (Or.inl (by simp)))
  have hTd : ∀ d, d ∈ done → T d := fun d hd => (h.part d).2 (Or.inl hd)
  -- from t one stays in what is left behind, or comes to the path below
  have key : ∀ y, Rt E T t y → (∃ p, p ∈ P ∧ Sc E T p t) ∨ y ∈ done ++ [t] := by
    intro y hy
    induction hy using Rt.ind with
    | refl => exact Or.inr (by simp)
    | @tail y z hy h2 h3 ih =>
      rcases ih with ih | ih
      · exact Or.inl ih
      · have hz : z ∈ done ∨ z ∈ P ++ [t] := by
          rcases List.mem_append.1 ih with h4 | h4
          · exact h.out y h4 z h2 h3
          · rw [List.mem_singleton] at h4
            subst h4
            rcases (h.part z).1 h3 with h5 | h5 | h5
            · exact Or.inl h5
            · exact Or.inr h5
            · exact absurd h5 (hno z h2)
        rcases hz with hz | hz
        · exact Or.inr (List.mem_append.2 (Or.inl hz))
        · rcases List.mem_append.1 hz with hz | hz
          · exact Or.inl ⟨z, hz, (List.pairwise_append.1 h.chain).2.2 z hz t (by simp), hy.tail h2 h3⟩
          · exact Or.inr (List.mem_append.2 (Or.inr hz))
  have kt : ∀ y, Rt E T t y → (∃ A x B, done ++ [t] = A ++ x :: B ∧ y ∈ A ++ [x] ∧ Sc E T x t) ∨ ∃ p, p ∈ P ∧ Sc E T p t := by
    intro y hy
    rcases key y hy with h1 | h1
    · exact Or.inr h1
    · exact Or.inl ⟨done, t, [], rfl, h1, Rt.refl, Rt.refl⟩
  refine ⟨fun x => ?_, ?_, fun x hx => ?_, ?_, fun d hd y h1 h2 => ?_, fun d hd y hy => ?_⟩
  · rw [h.part, List.mem_append, List.mem_append]
    constructor
    · rintro (h1 | (h1 | h1) | h1)
      · exact Or.inl (Or.inl h1)
      · exact Or.inr (Or.inl h1)
      · exact Or.inl (Or.inr h1)
      · exact Or.inr (Or.inr h1)
    · rintro ((h1 | h1) | h1 | h1)
      · exact Or.inl h1
      · exact Or.inr (Or.inl (Or.inr h1))
      · exact Or.inr (Or.inl (Or.inl h1))
      · exact Or.inr (Or.inr h1)
  · have := h.nd
    refine (List.Perm.nodup_iff ?_).1 this
    rw [List.append_assoc]
    exact List.Perm.append_left _ List.perm_append_comm
  · apply h.off x
    rcases hx with hx | hx
    · rcases List.mem_append.1 hx with hx | hx
      · exact Or.inl hx
      · exact Or.inr (List.mem_append.2 (Or.inr hx))
    · exact Or.inr (List.mem_append.2 (Or.inl hx))
  · exact (List.pairwise_append.1 h.chain).1
  · have hy : y ∈ done ∨ y ∈ P ++ [t] := by
      rcases List.mem_append.1 hd with h4 | h4
      · exact h.out d h4 y h1 h2
      · rw [List.mem_singleton] at h4
        subst h4
        rcases (h.part y).1 h2 with h5 | h5 | h5
        · exact Or.inl h5
        · exact Or.inr h5
        · exact absurd h5 (hno y h1)
    rcases hy with hy | hy
    · exact Or.inl (List.mem_append.2 (Or.inl hy))
    · rcases List.mem_append.1 hy with hy | hy
      · exact Or.inr hy
      · exact Or.inl (List.mem_append.2 (Or.inr hy))
  · rcases List.mem_append.1 hd with hd | hd
    · rcases h.kos d hd y hy with ⟨A, x, B, h1, h2, h3⟩ | ⟨p, h1, h2⟩
      · exact Or.inl ⟨A, x, B ++ [t], by rw [h1]; simp, h2, h3⟩
      · rcases List.mem_append.1 h1 with h1 | h1
        · exact Or.inr ⟨p, h1, h2⟩
        · rw [List.mem_singleton] at h1
          subst h1
          rcases kt y (h2.1.trans hy) with ⟨A, x, B, g1, g2, g3⟩ | ⟨q, g1, g2⟩
          · exact Or.inl ⟨A, x, B, g1, g2, g3.trans h2⟩
          · exact Or.inr ⟨q, g1, g2.trans h2⟩
    · rw [List.mem_singleton] at hd
      subst hd
      exact kt y hy

end

/-- KOSARAJU's order: from each of the row one comes to nothing that stands behind all of its own part. -/
def Kos {α : Type} (E : α → α → Prop) (T : α → Prop) (met : List α) : Prop := ∀ d, d ∈ met → ∀ y, Rt E T d y → ∃ A x B, met = A ++ x :: B ∧ y ∈ A ++ [x] ∧ Sc E T x d

theorem Dfs.kosaraju {α : Type} {E : α → α → Prop} {T : α → Prop} {met : List α} {L : α → Prop} (h : Dfs E T met [] L) : Kos E T met := fun d hd y hy => by
  rcases h.kos d hd y hy with h1 | ⟨p, h1, _⟩
  · exact h1
  · simp at h1

theorem order_two {α : Type} {A B A' B' : List α} {v x : α} (hnd : (A ++ v :: B).Nodup) (e : A ++ v :: B = A' ++ x :: B') (h1 : v ∈ A') (h2 : x ∈ A) : False := by
  have h3 : ∀ {C D : List α} {y : α}, (C ++ y :: D).Nodup → y ∉ C := by
    intro C D y h hy
    exact (List.nodup_append.1 h).2.2 y hy y (by simp) rfl
  have hnd' := hnd
  rw [e] at hnd'
  rcases List.append_eq_append_iff.1 e with ⟨cs, h4, _⟩ | ⟨ds, h4, _⟩
  · exact h3 hnd' (by rw [h4]; exact List.mem_append.2 (Or.inl h2))
  · exact h3 hnd (by rw [h4]; exact List.mem_append.2 (Or.inl h1))

/-- Going backward from the last one that is left: just its part comes. -/
theorem kos_part {α : Type} {E : α → α → Prop} {T : α → Prop} {met A B : List α} {v : α} {L : α → Prop} (hnd : met.Nodup) (hk : Kos E T met) (hm : met = A ++ v :: B)
    (hT : ∀ x, x ∈ met → T x) (hL : ∀ x, L x → x ∈ met) (hB : ∀ x, x ∈ B → ¬ L x) (hsc : ∀ x y, L x → Sc E T x y → L y) (hv : L v) (z : α) :
    Rt (fun x y => E y x) L v z ↔ Sc E T v z := by
  constructor
  · intro h
    have h1 : Rt E T z v ∧ L z := by
      induction h using Rt.ind with
      | refl => exact ⟨Rt.refl, hv⟩
      | @tail y x h2 h3 h4 ih => exact ⟨(Rt.one h3 (hT y (hL y ih.2))).trans ih.1, h4⟩
    obtain ⟨A', x, B', e1, e2, e3⟩ := hk z (hL z h1.2) v h1.1
    have hx : L x := hsc z x h1.2 e3.symm
    by_cases hxv : x = v
    · subst hxv; exact e3
    · exfalso
      have hxm : x ∈ A := by
        have : x ∈ met := hL x hx
        rw [hm] at this
        rcases List.mem_append.1 this with h5 | h5
        · exact h5
        · rcases List.mem_cons.1 h5 with h5 | h5
          · exact absurd h5 hxv
          · exact absurd hx (hB x h5)
      have hvm : v ∈ A' := by
        rcases List.mem_append.1 e2 with h5 | h5
        · exact h5
        · exact absurd (List.mem_singleton.1 h5).symm hxv
      rw [hm] at hnd e1
      exact order_two hnd e1 hvm hxm
  · rintro ⟨h1, h2⟩
    have key : ∀ u, Rt E T z u → Rt E T u z → L u → Rt (fun x y => E y x) L u z := by
      intro u hu
      induction hu using Rt.ind with
      | refl => intro _ _; exact Rt.refl
      | @tail y u h3 h4 h5 ih =>
        intro h6 h7
        have hyu : Rt E T y u := Rt.one h4 h5
        have hLy : L y := hsc u y h7 ⟨h6.trans h3, hyu⟩
        exact Rt.trans (Rt.one h4 hLy) (ih (hyu.trans h6) hLy)
    exact key v h2 h1 hv

end Go.Proofs.YtmdpbaobihdgkaaGreatDoor
