/- The text of a formula; standsBare, writeLeaf. -/
import Derived.Test.YtgpjlgffmlkkoaaDoorNam
import Derived.Test.YtgpjlgffmlkkoaaDoorBld
namespace Go.Proofs.YtgpjlgffmlkkoaaDoor
open Go.RowKit

/-- What is written of a formula itself. -/
def sg (k : Nat) : ByteArray :=
  match k with
  | 1 => ⟨#[116, 114, 117, 101]⟩
  | 2 => ⟨#[102, 97, 108, 115, 101]⟩
  | 4 => ⟨#[33]⟩
  | 5 => ⟨#[32, 38, 32]⟩
  | 6 => ⟨#[32, 47, 32]⟩
  | 7 => ⟨#[88, 32]⟩
  | 8 => ⟨#[32, 85, 32]⟩
  | 9 => ⟨#[32, 82, 32]⟩
  | 10 => ⟨#[70, 32]⟩
  | 11 => ⟨#[71, 32]⟩
  | _ => ⟨#[]⟩

theorem sg_size (k : Nat) : (sg k).size ≤ 5 := by
  unfold sg
  split <;> decide

def sgAt (w : World) : Prop := ∀ k : Nat, k ≤ 11 → w.cell? ⟨0, k, none⟩ = some (.string (sg k))

theorem sgAt.below {B : Nat} {w w' : World} (h : sgAt w) (hb : Below B w w') (hB : 0 < B) : sgAt w' := fun k h1 => below_cell' hb hB (h k h1)

/-- Does a Kid need no brackets there? -/
def bare (kid k : Int) (i : Nat) : Bool :=
  if ar kid < 2 then true else if k = 5 then decide (kid = k) && decide (i = 0) else if k = 6 then (decide (kid = k) && decide (i = 0)) || decide (kid = 5)
  else if k = 8 ∨ k = 9 then decide (kid = k) && decide (i = 1) else false

/-- In brackets, if it needs them. -/
def par (b : Bool) (l : List UInt8) : List UInt8 := if b = true then l else 40 :: (l ++ [41])

def txF (N : Nat) (M : Nat → ByteArray) (t : Fml) (r : Nat → List UInt8) : List UInt8 := if t.cnt = 1 then (sg t.kind.toNat).data.toList ++ par (bare (t.kid 0).kind t.kind 0) (r 0)
      else if t.cnt = 2 then par (bare (t.kid 0).kind t.kind 0) (r 0) ++ ((sg t.kind.toNat).data.toList ++ par (bare (t.kid 1).kind t.kind 1) (r 1))
      else if t.kind = 3 then (wd N M t.num.toNat).data.toList else (sg t.kind.toNat).data.toList

/-- The text of a formula. -/
def tx (N : Nat) (M : Nat → ByteArray) (t : Fml) : List UInt8 := t.red [] (txF N M)

theorem tx_eq (N : Nat) (M : Nat → ByteArray) (t : Fml) : tx N M t = if t.cnt = 1 then (sg t.kind.toNat).data.toList ++ par (bare (t.kid 0).kind t.kind 0) (tx N M (t.kid 0))
      else if t.cnt = 2 then par (bare (t.kid 0).kind t.kind 0) (tx N M (t.kid 0)) ++ ((sg t.kind.toNat).data.toList ++ par (bare (t.kid 1).kind t.kind 1) (tx N M (t.kid 1)))
      else if t.kind = 3 then (wd N M t.num.toNat).data.toList else (sg t.kind.toNat).data.toList := by
  have e : tx N M t = txF N M t (t.reds [] (txF N M)) := Fml.red_eq _ _ t
  rw [e, txF]
  by_cases h1 : t.cnt = 1
  · rw [if_pos h1, if_pos h1, Fml.reds_at (by omega)]
    rfl
  · rw [if_neg h1, if_neg h1]
    by_cases h2 : t.cnt = 2
    · rw [if_pos h2, if_pos h2, Fml.reds_at (by omega), Fml.reds_at (by omega)]
      rfl
    · rw [if_neg h2, if_neg h2]

def nmF (N : Nat) (M : Nat → ByteArray) (t : Fml) (r : Nat → Bool) : Bool := if t.cnt = 1 then r 0 else if t.cnt = 2 then r 1 && r 0 else if t.kind = 3 then wok N M t.num.toNat else true

/-- Do all atoms have words? -/
def nmd (N : Nat) (M : Nat → ByteArray) (t : Fml) : Bool := t.red true (nmF N M)

theorem nmd_eq (N : Nat) (M : Nat → ByteArray) (t : Fml) : nmd N M t = if t.cnt = 1 then nmd N M (t.kid 0) else if t.cnt = 2 then nmd N M (t.kid 1) && nmd N M (t.kid 0) else if t.kind = 3 then wok N M t.num.toNat else true := by
  have e : nmd N M t = nmF N M t (t.reds true (nmF N M)) := Fml.red_eq _ _ t
  rw [e, nmF]
  by_cases h1 : t.cnt = 1
  · rw [if_pos h1, if_pos h1, Fml.reds_at (by omega)]
    rfl
  · rw [if_neg h1, if_neg h1]
    by_cases h2 : t.cnt = 2
    · rw [if_pos h2, if_pos h2, Fml.reds_at (by omega), Fml.reds_at (by omega)]
      rfl
    · rw [if_neg h2, if_neg h2]

/-- All nodes fit. -/
def Wf (t : Fml) : Prop := t.red True fun t r => fit t = true ∧ ∀ i, i < t.cnt → r i

theorem Wf.out {t : Fml} (h : Wf t) : fit t = true ∧ ∀ i, i < t.cnt → Wf (t.kid i) := by
  unfold Wf at h
  rw [Fml.red_eq] at h
  exact ⟨h.1, fun i hi => by have := h.2 i hi; rwa [Fml.reds_at hi] at this⟩
theorem Wf.mk {t : Fml} (h : fit t = true ∧ ∀ i, i < t.cnt → Wf (t.kid i)) : Wf t := by
  unfold Wf
  rw [Fml.red_eq]
  exact ⟨h.1, fun i hi => by rw [Fml.reds_at hi]; exact h.2 i hi⟩

def sumTo (f : Nat → Nat) : Nat → Nat
  | 0 => 0
  | n + 1 => sumTo f n + f n

theorem sumTo_congr {f g : Nat → Nat} : ∀ n, (∀ i, i < n → f i = g i) → sumTo f n = sumTo g n
  | 0, _ => rfl
  | n + 1, h => by rw [sumTo, sumTo, sumTo_congr n (fun i hi => h i (by omega)), h n (by omega)]

def szF (t : Fml) (r : Nat → Nat) : Nat := 1 + sumTo r t.cnt

/-- How many nodes a formula has. -/
def sz (t : Fml) : Nat := t.red 0 szF

theorem sz_eq (t : Fml) : sz t = 1 + sumTo (fun i => sz (t.kid i)) t.cnt := by
  have e : sz t = szF t (t.reds 0 szF) := Fml.red_eq _ _ t
  rw [e, szF, sumTo_congr (f := t.reds 0 szF) (g := fun i => sz (t.kid i)) t.cnt (fun i hi => Fml.reds_at hi)]

theorem chkAll_count {f : Nat → Nat → Int × Nat} {g : Nat → Nat} {p : Nat → Prop} {m : Nat} : ∀ n, (∀ i, i < n → ∀ x, (f i x).1 = 0 → p i ∧ (f i x).2 = x + g i) → (chkAll f m n).1 = 0 → (∀ i, i < n → p i) ∧ (chkAll f m n).2 = m + sumTo g n
  | 0, _, _ => ⟨fun _ h => absurd h (Nat.not_lt_zero _), rfl⟩
  | n + 1, hf, h => by
    have h0 : (chkAll f m n).1 = 0 := chkAll_ok h (Nat.le_succ n)
    obtain ⟨h1, h2⟩ := chkAll_count n (fun i hi => hf i (by omega)) h0
    simp only [chkAll, if_pos h0] at h ⊢
    obtain ⟨h3, h4⟩ := hf n (by omega) _ h
    refine ⟨snoc_all h1 h3, ?_⟩
    rw [h4, h2, sumTo]
    omega

theorem chk_wf : ∀ (t : Fml) (d m : Nat), (chk t d m).1 = 0 → Wf t ∧ (chk t d m).2 = m + sz t := by
  intro t
  induction t using Fml.ind with
  | h t ih =>
    intro d m h
    rw [chk_eq] at h ⊢
    by_cases h1 : 60 < m + 1
    · rw [if_pos h1] at h; cases h
    rw [if_neg h1] at h ⊢
    by_cases h2 : 20 < d
    · rw [if_pos h2] at h; cases h
    rw [if_neg h2] at h ⊢
    by_cases h3 : fit t = false
    · rw [if_pos h3] at h; cases h
    rw [if_neg h3] at h ⊢
    obtain ⟨h4, h5⟩ := chkAll_count (f := fun i x => chk (t.kid i) (d + 1) x) (g := fun i => sz (t.kid i)) (p := fun i => Wf (t.kid i)) t.cnt (fun i hi x hh => ih i hi (d + 1) x hh) h
    refine ⟨Wf.mk ⟨by simpa using h3, h4⟩, ?_⟩
    rw [sz_eq, h5]
    omega

theorem nameOk_size {s : ByteArray} (h : nameOk s = true) : s.size ≤ 8 := by
  unfold nameOk at h
  simp only [Bool.and_eq_true, decide_eq_true_eq] at h
  exact h.1.1.1.1.2

theorem wd_size (N : Nat) (M : Nat → ByteArray) (x : Nat) : (wd N M x).size ≤ 8 := by
  unfold wd
  split
  · decide
  · split
    · rename_i h; exact nameOk_size (nmOk_out h).2.1
    · decide

theorem bytes_len (s : ByteArray) : s.data.toList.length = s.size := by rw [Array.length_toList]; rfl

theorem par_len (b : Bool) (l : List UInt8) : (par b l).length ≤ l.length + 2 := by
  unfold par
  split
  · omega
  · simp

theorem tx_len (N : Nat) (M : Nat → ByteArray) : ∀ t : Fml, (tx N M t).length + 2 ≤ 12 * sz t := by
  intro t
  induction t using Fml.ind with
  | h t ih =>
    rw [tx_eq, sz_eq]
    have hs := sg_size t.kind.toNat
    have hs1 := bytes_len (sg t.kind.toNat)
    by_cases h1 : t.cnt = 1
    · have h0 := ih 0 (by omega)
      have h2 := par_len (bare (t.kid 0).kind t.kind 0) (tx N M (t.kid 0))
      rw [if_pos h1, h1]
      simp only [List.length_append, hs1, sumTo]
      omega
    rw [if_neg h1]
    by_cases h2 : t.cnt = 2
    · have h0 := ih 0 (by omega)
      have h1 := ih 1 (by omega)
      have h3 := par_len (bare (t.kid 0).kind t.kind 0) (tx N M (t.kid 0))
      have h4 := par_len (bare (t.kid 1).kind t.kind 1) (tx N M (t.kid 1))
      rw [if_pos h2, h2]
      simp only [List.length_append, hs1, sumTo]
      omega
    rw [if_neg h2]
    have hw := wd_size N M t.num.toNat
    have hw1 := bytes_len (wd N M t.num.toNat)
    split
    · rw [hw1]; omega
    · rw [hs1]; omega

set_option maxHeartbeats 1000000 in
theorem standsBare_any (q p : Nat) (i : Nat) (w : World) (hq1 : 1 ≤ q) (hq2 : q ≤ 11) (hk : kcAt w) :
    Calls Tryd.prog 44 #[.int .i64 q, .int .i64 p, .int .i64 i] w fun e w' => e = .returned (.bool (bare q p i)) ∧ w' = w := by
  have hc := hk q hq1 hq2
  clear hk
  have hq12 : (q : Int) < 12 := by omega
  by_cases h0 : ar q < 2
  · have E : Hid (bare q p i = true) := hid <| by simp [bare, h0]
    generalize ar q = r at *
    go_enter Tryd.func44, Tryd.ntmps44
    go_wp2
    go_ret
    exact ⟨ret_bool E.out.symm, rfl⟩
  by_cases h5 : p = 5
  · subst h5
    by_cases ha : q = 5
    · subst ha
      by_cases hb : i = 0
      · subst hb
        have E : Hid (bare (5 : Nat) (5 : Nat) 0 = true) := hid <| by decide
        generalize ar (5 : Nat) = r at *
        go_enter Tryd.func44, Tryd.ntmps44
        go_wp2
        go_ret
        exact ⟨ret_bool E.out.symm, rfl⟩
      · have bb : ((i : Int) == 0) = false := beq_eq_false_iff_ne.2 (by omega)
        have E : Hid (bare (5 : Nat) (5 : Nat) i = false) := hid <| by simp [bare, ar, hb]
        generalize ar (5 : Nat) = r at *
        clear hb
        go_enter Tryd.func44, Tryd.ntmps44
        go_wp2
        go_ret
        exact ⟨ret_bool E.out.symm, rfl⟩
    · have ba : ((q : Int) == 5) = false := beq_eq_false_iff_ne.2 (by omega)
      have E : Hid (bare q (5 : Nat) i = false) := hid <| by
        have : ¬ ((q : Int) = 5) := by omega
        simp [bare, h0, this]
      generalize ar q = r at *
      clear ha
      go_enter Tryd.func44, Tryd.ntmps44
      go_wp2
      go_ret
      exact ⟨ret_bool E.out.symm, rfl⟩
  have b5 : ((p : Int) == 5) = false := beq_eq_false_iff_ne.2 (by omega)
  by_cases h6 : p = 6
  · subst h6
    by_cases ha : q = 6
    · subst ha
      by_cases hb : i = 0
      · subst hb
        have E : Hid (bare (6 : Nat) (6 : Nat) 0 = true) := hid <| by decide
        generalize ar (6 : Nat) = r at *
        go_enter Tryd.func44, Tryd.ntmps44
        go_wp2
        go_ret
        exact ⟨ret_bool E.out.symm, rfl⟩
      · have bb : ((i : Int) == 0) = false := beq_eq_false_iff_ne.2 (by omega)
        have E : Hid (bare (6 : Nat) (6 : Nat) i = false) := hid <| by simp [bare, ar, hb]
        generalize ar (6 : Nat) = r at *
        clear hb
        go_enter Tryd.func44, Tryd.ntmps44
        go_wp2
        go_ret
        exact ⟨ret_bool E.out.symm, rfl⟩
    · have ba : ((q : Int) == 6) = false := beq_eq_false_iff_ne.2 (by omega)
      by_cases hb : q = 5
      · subst hb
        have E : Hid (bare (5 : Nat) (6 : Nat) i = true) := hid <| by simp [bare, ar]
        generalize ar (5 : Nat) = r at *
        clear ha
        go_enter Tryd.func44, Tryd.ntmps44
        go_wp2
        go_ret
        exact ⟨ret_bool E.out.symm, rfl⟩
      · have bb : ((q : Int) == 5) = false := beq_eq_false_iff_ne.2 (by omega)
        have E : Hid (bare q (6 : Nat) i = false) := hid <| by
          have h1 : ¬ ((q : Int) = 5) := by omega
          have h2 : ¬ ((q : Int) = 6) := by omega
          simp [bare, h0, h1, h2]
        generalize ar q = r at *
        clear ha hb
        go_enter Tryd.func44, Tryd.ntmps44
        go_wp2
        go_ret
        exact ⟨ret_bool E.out.symm, rfl⟩
  have b6 : ((p : Int) == 6) = false := beq_eq_false_iff_ne.2 (by omega)
  by_cases h8 : p = 8
  · subst h8
    by_cases ha : q = 8
    · subst ha
      by_cases hb : i = 1
      · subst hb
        have E : Hid (bare (8 : Nat) (8 : Nat) 1 = true) := hid <| by decide
        generalize ar (8 : Nat) = r at *
        go_enter Tryd.func44, Tryd.ntmps44
        go_wp2
        go_ret
        exact ⟨ret_bool E.out.symm, rfl⟩
      · have bb : ((i : Int) == 1) = false := beq_eq_false_iff_ne.2 (by omega)
        have E : Hid (bare (8 : Nat) (8 : Nat) i = false) := hid <| by simp [bare, ar, hb]
        generalize ar (8 : Nat) = r at *
        clear hb
        go_enter Tryd.func44, Tryd.ntmps44
        go_wp2
        go_ret
        exact ⟨ret_bool E.out.symm, rfl⟩
    · have ba : ((q : Int) == 8) = false := beq_eq_false_iff_ne.2 (by omega)
      have E : Hid (bare q (8 : Nat) i = false) := hid <| by
        have : ¬ ((q : Int) = 8) := by omega
        simp [bare, h0, this]
      generalize ar q = r at *
      clear ha
      go_enter Tryd.func44, Tryd.ntmps44
      go_wp2
      go_ret
      exact ⟨ret_bool E.out.symm, rfl⟩
  have b8 : ((p : Int) == 8) = false := beq_eq_false_iff_ne.2 (by omega)
  by_cases h9 : p = 9
  · subst h9
    by_cases ha : q = 9
    · subst ha
      by_cases hb : i = 1
      · subst hb
        have E : Hid (bare (9 : Nat) (9 : Nat) 1 = true) := hid <| by decide
        generalize ar (9 : Nat) = r at *
        go_enter Tryd.func44, Tryd.ntmps44
        go_wp2
        go_ret
        exact ⟨ret_bool E.out.symm, rfl⟩
      · have bb : ((i : Int) == 1) = false := beq_eq_false_iff_ne.2 (by omega)
        have E : Hid (bare (9 : Nat) (9 : Nat) i = false) := hid <| by simp [bare, ar, hb]
        generalize ar (9 : Nat) = r at *
        clear hb
        go_enter Tryd.func44, Tryd.ntmps44
        go_wp2
        go_ret
        exact ⟨ret_bool E.out.symm, rfl⟩
    · have ba : ((q : Int) == 9) = false := beq_eq_false_iff_ne.2 (by omega)
      have E : Hid (bare q (9 : Nat) i = false) := hid <| by
        have : ¬ ((q : Int) = 9) := by omega
        simp [bare, h0, this]
      generalize ar q = r at *
      clear ha
      go_enter Tryd.func44, Tryd.ntmps44
      go_wp2
      go_ret
      exact ⟨ret_bool E.out.symm, rfl⟩
  have b9 : ((p : Int) == 9) = false := beq_eq_false_iff_ne.2 (by omega)
  have E : Hid (bare q p i = false) := hid <| by
    have h1 : ¬ ((p : Int) = 5) := by omega
    have h2 : ¬ ((p : Int) = 6) := by omega
    have h3 : ¬ ((p : Int) = 8 ∨ (p : Int) = 9) := by omega
    simp [bare, h0, h1, h2, h3]
  generalize ar q = r at *
  clear h5 h6 h8 h9
  go_enter Tryd.func44, Tryd.ntmps44
  go_wp2
  go_ret
  exact ⟨ret_bool E.out.symm, rfl⟩

end Go.Proofs.YtgpjlgffmlkkoaaDoor
