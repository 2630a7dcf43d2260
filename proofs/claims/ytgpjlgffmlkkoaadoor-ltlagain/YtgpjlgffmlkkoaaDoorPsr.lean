/- How a text of a formula is read, as a reckoning. -/
import Derived.Test.YtgpjlgffmlkkoaaDoorRefNam
namespace Go.Proofs.YtgpjlgffmlkkoaaDoor

/-- Past the blanks. -/
def skp : List UInt8 → List UInt8
  | [] => []
  | c :: r => if c = 32 then skp r else c :: r

def isL (c : UInt8) : Bool := decide (97 ≤ c.toNat ∧ c.toNat ≤ 122)

/-- The word that comes next. -/
def wrd (s : List UInt8) : List UInt8 := s.takeWhile isL

def nd (k n : Int) : Fml := ⟨k, n, 0, fun i => i.elim0⟩
def on (k : Int) (a : Fml) : Fml := ⟨k, 0, 1, fun _ => a⟩
def tw (k : Int) (a b : Fml) : Fml := ⟨k, 0, 2, fun i => if i.val = 0 then a else b⟩

/-- The formula of a word. -/
def lf (N : Nat) (M : Nat → ByteArray) (w : List UInt8) : Option Fml :=
  if w = [116, 114, 117, 101] then some (nd 1 0) else if w = [102, 97, 108, 115, 101] then some (nd 2 0) else if atB N M (byt w) = true then some (nd 3 (atV N M (byt w))) else none

/-- What is wrong with what comes next. -/
def wrg (N : Nat) (M : Nat → ByteArray) (s : List UInt8) : Int := if wrd s ≠ [] ∧ lf N M (wrd s) = none then 4 else 3

/-- What is read: an error and how much was left there, or a formula and what is left. -/
abbrev Rs := Except (Int × Nat) (Fml × List UInt8)

def bnd (x : Option Rs) (f : Fml → List UInt8 → Option Rs) : Option Rs :=
  match x with
  | none => none
  | some (.error e) => some (.error e)
  | some (.ok (a, s)) => f a s

/-- The Kind of a sign of a SINGLE. -/
def sgK (c : UInt8) : Option Int := if c = 33 then some 4 else if c = 88 then some 7 else if c = 70 then some 10 else if c = 71 then some 11 else none

def sngl (N : Nat) (M : Nat → ByteArray) (rec : Nat → Fml → List UInt8 → Nat → Option Rs) (s : List UInt8) (o : Nat) : Option Rs :=
  match s with
  | [] => some (.error (wrg N M [], 0))
  | c :: r =>
    if c = 40 then (if o = 20 then some (.error (5, r.length + 1)) else bnd (rec 0 .leaf (skp r) (o + 1)) fun a s1 =>
      match s1 with
      | 41 :: r1 => some (.ok (a, skp r1))
      | _ => some (.error (wrg N M s1, s1.length)))
    else match sgK c with
      | some k => if o = 20 then some (.error (5, r.length + 1)) else bnd (rec 4 .leaf (skp r) (o + 1)) fun a s1 => some (.ok (on k a, s1))
      | none => match lf N M (wrd (c :: r)) with
        | some t => some (.ok (t, skp ((c :: r).drop (wrd (c :: r)).length)))
        | none => some (.error (wrg N M (c :: r), r.length + 1))

def wayS (rec : Nat → Fml → List UInt8 → Nat → Option Rs) (s : List UInt8) (o : Nat) : Option Rs :=
  bnd (rec 4 .leaf s o) fun a s1 =>
    match s1 with
    | 85 :: r => bnd (rec 3 .leaf (skp r) o) fun b s2 => some (.ok (tw 8 a b, s2))
    | 82 :: r => bnd (rec 3 .leaf (skp r) o) fun b s2 => some (.ok (tw 9 a b, s2))
    | 87 :: r => bnd (rec 3 .leaf (skp r) o) fun b s2 => some (.ok (tw 9 b (tw 6 a b), s2))
    | _ => some (.ok (a, s1))

def loopS (rec : Nat → Fml → List UInt8 → Nat → Option Rs) (lv nx : Nat) (sign : UInt8) (k : Int) (a : Fml) (s : List UInt8) (o : Nat) : Option Rs :=
  match s with
  | c :: r => if c = sign then bnd (rec nx .leaf (skp r) o) fun b s2 => rec lv (tw k a b) s2 o else some (.ok (a, s))
  | [] => some (.ok (a, []))

def formS (rec : Nat → Fml → List UInt8 → Nat → Option Rs) (s : List UInt8) (o : Nat) : Option Rs :=
  bnd (rec 1 .leaf s o) fun a s1 =>
    match s1 with
    | 45 :: 62 :: r => bnd (rec 0 .leaf (skp r) o) fun b s2 => some (.ok (tw 6 (on 4 a) b, s2))
    | _ => some (.ok (a, s1))

/-- One step: 0 formula, 1 or, 2 and, 3 way, 4 single, 5 the rest of an or, 6 the rest of an and. -/
def pst (N : Nat) (M : Nat → ByteArray) (rec : Nat → Fml → List UInt8 → Nat → Option Rs) (lv : Nat) (a : Fml) (s : List UInt8) (o : Nat) : Option Rs :=
  match lv with
  | 0 => formS rec s o
  | 1 => bnd (rec 2 .leaf s o) fun a s1 => rec 5 a s1 o
  | 2 => bnd (rec 3 .leaf s o) fun a s1 => rec 6 a s1 o
  | 3 => wayS rec s o
  | 4 => sngl N M rec s o
  | 5 => loopS rec 5 2 47 6 a s o
  | _ => loopS rec 6 3 38 5 a s o

def ps (N : Nat) (M : Nat → ByteArray) : Nat → Nat → Fml → List UInt8 → Nat → Option Rs
  | 0 => fun _ _ _ _ => none
  | F + 1 => pst N M (ps N M F)

theorem bnd_mono {x x' : Option Rs} {f f' : Fml → List UInt8 → Option Rs} {r : Rs} (h : bnd x f = some r) (hx : ∀ r, x = some r → x' = some r) (hf : ∀ a s r, f a s = some r → f' a s = some r) : bnd x' f' = some r := by
  cases x with
  | none => simp [bnd] at h
  | some y =>
    rw [hx y rfl]
    cases y with
    | error e => exact h
    | ok p => exact hf _ _ _ h

theorem pst_mono {N : Nat} {M : Nat → ByteArray} {rec rec' : Nat → Fml → List UInt8 → Nat → Option Rs} (hr : ∀ lv a s o r, rec lv a s o = some r → rec' lv a s o = some r) {lv : Nat} {a : Fml} {s : List UInt8} {o : Nat} {r : Rs}
    (h : pst N M rec lv a s o = some r) : pst N M rec' lv a s o = some r := by
  unfold pst at h ⊢
  split at h
  · unfold formS at h ⊢
    refine bnd_mono h (hr _ _ _ _) (fun a s r hh => ?_)
    split at hh
    · exact bnd_mono hh (hr _ _ _ _) (fun _ _ _ h => h)
    · exact hh
  · exact bnd_mono h (hr _ _ _ _) (fun _ _ _ => hr _ _ _ _ _)
  · exact bnd_mono h (hr _ _ _ _) (fun _ _ _ => hr _ _ _ _ _)
  · unfold wayS at h ⊢
    refine bnd_mono h (hr _ _ _ _) (fun a s r hh => ?_)
    split at hh
    · exact bnd_mono hh (hr _ _ _ _) (fun _ _ _ h => h)
    · exact bnd_mono hh (hr _ _ _ _) (fun _ _ _ h => h)
    · exact bnd_mono hh (hr _ _ _ _) (fun _ _ _ h => h)
    · exact hh
  · unfold sngl at h ⊢
    split at h
    · exact h
    · split at h
      · rename_i hc
        rw [if_pos hc]
        split at h
        · rename_i ho
          rw [if_pos ho]
          exact h
        · rename_i ho
          rw [if_neg ho]
          exact bnd_mono h (hr _ _ _ _) (fun _ _ _ h => h)
      · rename_i hc
        rw [if_neg hc]
        split at h
        · split at h
          · rename_i ho
            rw [if_pos ho]
            exact h
          · rename_i ho
            rw [if_neg ho]
            exact bnd_mono h (hr _ _ _ _) (fun _ _ _ h => h)
        · exact h
  · unfold loopS at h ⊢
    split at h
    · split at h
      · rename_i hc
        simp only [if_pos hc]
        exact bnd_mono h (hr _ _ _ _) (fun _ _ _ => hr _ _ _ _ _)
      · rename_i hc
        simp only [if_neg hc]
        exact h
    · exact h
  · unfold loopS at h ⊢
    split at h
    · split at h
      · rename_i hc
        simp only [if_pos hc]
        exact bnd_mono h (hr _ _ _ _) (fun _ _ _ => hr _ _ _ _ _)
      · rename_i hc
        simp only [if_neg hc]
        exact h
    · exact h

theorem ps_succ {N : Nat} {M : Nat → ByteArray} : ∀ {F : Nat} {lv : Nat} {a : Fml} {s : List UInt8} {o : Nat} {r : Rs}, ps N M F lv a s o = some r → ps N M (F + 1) lv a s o = some r
  | 0, _, _, _, _, _, h => by simp [ps] at h
  | F + 1, _, _, _, _, _, h => pst_mono (fun _ _ _ _ _ hh => ps_succ hh) h

theorem ps_mono {N : Nat} {M : Nat → ByteArray} {F : Nat} {lv : Nat} {a : Fml} {s : List UInt8} {o : Nat} {r : Rs} (h : ps N M F lv a s o = some r) : ∀ {G}, F ≤ G → ps N M G lv a s o = some r := by
  intro G hG
  induction hG with
  | refl => exact h
  | step _ ih => exact ps_succ ih

/-- So it is read. -/
def Ev (N : Nat) (M : Nat → ByteArray) (lv : Nat) (a : Fml) (s : List UInt8) (o : Nat) (r : Rs) : Prop := ∃ F, ps N M F lv a s o = some r

theorem Ev.uniq {N : Nat} {M : Nat → ByteArray} {lv : Nat} {a : Fml} {s : List UInt8} {o : Nat} {r r' : Rs} (h : Ev N M lv a s o r) (h' : Ev N M lv a s o r') : r = r' := by
  obtain ⟨F, hF⟩ := h
  obtain ⟨G, hG⟩ := h'
  have h1 := ps_mono hF (Nat.le_max_left F G)
  have h2 := ps_mono hG (Nat.le_max_right F G)
  rw [h1] at h2
  exact Option.some.inj h2

theorem lf_nil (N : Nat) (M : Nat → ByteArray) : lf N M [] = none := by
  have h1 : nameOk (byt []) = false := nameOk_short (by rw [byt_size]; simp)
  have h2 : sil (byt []) = false := by
    unfold sil byt
    simp
  simp [lf, atB, h1, h2]

section
variable {N : Nat} {M : Nat → ByteArray} {a0 a b t : Fml} {s s1 s2 r : List UInt8} {o : Nat} {e : Int × Nat} {q : Rs}

theorem Ev.mk {lv : Nat} (h : ∃ F, pst N M (ps N M F) lv a0 s o = some q) : Ev N M lv a0 s o q := by
  obtain ⟨F, hF⟩ := h
  exact ⟨F + 1, hF⟩

theorem ev0_err (h : Ev N M 1 .leaf s o (.error e)) : Ev N M 0 a0 s o (.error e) := by
  obtain ⟨F, hF⟩ := h
  exact Ev.mk ⟨F, by simp only [pst, formS, hF, bnd]⟩
theorem ev0_ok (h : Ev N M 1 .leaf s o (.ok (a, s1))) (hn : ∀ r, s1 ≠ 45 :: 62 :: r) : Ev N M 0 a0 s o (.ok (a, s1)) := by
  obtain ⟨F, hF⟩ := h
  refine Ev.mk ⟨F, ?_⟩
  simp only [pst, formS, hF, bnd]
theorem ev0_imp (h : Ev N M 1 .leaf s o (.ok (a, 45 :: 62 :: r))) (h2 : Ev N M 0 .leaf (skp r) o (.ok (b, s2))) : Ev N M 0 a0 s o (.ok (tw 6 (on 4 a) b, s2)) := by
  obtain ⟨F, hF⟩ := h
  obtain ⟨G, hG⟩ := h2
  refine Ev.mk ⟨max F G, ?_⟩
  simp only [pst, formS, ps_mono hF (Nat.le_max_left F G), bnd, ps_mono hG (Nat.le_max_right F G)]
theorem ev0_imp_err (h : Ev N M 1 .leaf s o (.ok (a, 45 :: 62 :: r))) (h2 : Ev N M 0 .leaf (skp r) o (.error e)) : Ev N M 0 a0 s o (.error e) := by
  obtain ⟨F, hF⟩ := h
  obtain ⟨G, hG⟩ := h2
  refine Ev.mk ⟨max F G, ?_⟩
  simp only [pst, formS, ps_mono hF (Nat.le_max_left F G), bnd, ps_mono hG (Nat.le_max_right F G)]

theorem ev1_err (h : Ev N M 2 .leaf s o (.error e)) : Ev N M 1 a0 s o (.error e) := by
  obtain ⟨F, hF⟩ := h
  exact Ev.mk ⟨F, by simp only [pst, hF, bnd]⟩
theorem ev1_ok (h : Ev N M 2 .leaf s o (.ok (a, s1))) (h2 : Ev N M 5 a s1 o q) : Ev N M 1 a0 s o q := by
  obtain ⟨F, hF⟩ := h
  obtain ⟨G, hG⟩ := h2
  refine Ev.mk ⟨max F G, ?_⟩
  simp only [pst, ps_mono hF (Nat.le_max_left F G), bnd, ps_mono hG (Nat.le_max_right F G)]

theorem ev2_err (h : Ev N M 3 .leaf s o (.error e)) : Ev N M 2 a0 s o (.error e) := by
  obtain ⟨F, hF⟩ := h
  exact Ev.mk ⟨F, by simp only [pst, hF, bnd]⟩
theorem ev2_ok (h : Ev N M 3 .leaf s o (.ok (a, s1))) (h2 : Ev N M 6 a s1 o q) : Ev N M 2 a0 s o q := by
  obtain ⟨F, hF⟩ := h
  obtain ⟨G, hG⟩ := h2
  refine Ev.mk ⟨max F G, ?_⟩
  simp only [pst, ps_mono hF (Nat.le_max_left F G), bnd, ps_mono hG (Nat.le_max_right F G)]

theorem ev3_err (h : Ev N M 4 .leaf s o (.error e)) : Ev N M 3 a0 s o (.error e) := by
  obtain ⟨F, hF⟩ := h
  exact Ev.mk ⟨F, by simp only [pst, wayS, hF, bnd]⟩
theorem ev3_ok (h : Ev N M 4 .leaf s o (.ok (a, s1))) (h1 : ∀ r, s1 ≠ 85 :: r) (h2 : ∀ r, s1 ≠ 82 :: r) (h3 : ∀ r, s1 ≠ 87 :: r) : Ev N M 3 a0 s o (.ok (a, s1)) := by
  obtain ⟨F, hF⟩ := h
  refine Ev.mk ⟨F, ?_⟩
  simp only [pst, wayS, hF, bnd]
theorem ev3_u (h : Ev N M 4 .leaf s o (.ok (a, 85 :: r))) (h2 : Ev N M 3 .leaf (skp r) o (.ok (b, s2))) : Ev N M 3 a0 s o (.ok (tw 8 a b, s2)) := by
  obtain ⟨F, hF⟩ := h
  obtain ⟨G, hG⟩ := h2
  refine Ev.mk ⟨max F G, ?_⟩
  simp only [pst, wayS, ps_mono hF (Nat.le_max_left F G), bnd, ps_mono hG (Nat.le_max_right F G)]
theorem ev3_u_err (h : Ev N M 4 .leaf s o (.ok (a, 85 :: r))) (h2 : Ev N M 3 .leaf (skp r) o (.error e)) : Ev N M 3 a0 s o (.error e) := by
  obtain ⟨F, hF⟩ := h
  obtain ⟨G, hG⟩ := h2
  refine Ev.mk ⟨max F G, ?_⟩
  simp only [pst, wayS, ps_mono hF (Nat.le_max_left F G), bnd, ps_mono hG (Nat.le_max_right F G)]
theorem ev3_r (h : Ev N M 4 .leaf s o (.ok (a, 82 :: r))) (h2 : Ev N M 3 .leaf (skp r) o (.ok (b, s2))) : Ev N M 3 a0 s o (.ok (tw 9 a b, s2)) := by
  obtain ⟨F, hF⟩ := h
  obtain ⟨G, hG⟩ := h2
  refine Ev.mk ⟨max F G, ?_⟩
  simp only [pst, wayS, ps_mono hF (Nat.le_max_left F G), bnd, ps_mono hG (Nat.le_max_right F G)]
theorem ev3_r_err (h : Ev N M 4 .leaf s o (.ok (a, 82 :: r))) (h2 : Ev N M 3 .leaf (skp r) o (.error e)) : Ev N M 3 a0 s o (.error e) := by
  obtain ⟨F, hF⟩ := h
  obtain ⟨G, hG⟩ := h2
  refine Ev.mk ⟨max F G, ?_⟩
  simp only [pst, wayS, ps_mono hF (Nat.le_max_left F G), bnd, ps_mono hG (Nat.le_max_right F G)]
theorem ev3_w (h : Ev N M 4 .leaf s o (.ok (a, 87 :: r))) (h2 : Ev N M 3 .leaf (skp r) o (.ok (b, s2))) : Ev N M 3 a0 s o (.ok (tw 9 b (tw 6 a b), s2)) := by
  obtain ⟨F, hF⟩ := h
  obtain ⟨G, hG⟩ := h2
  refine Ev.mk ⟨max F G, ?_⟩
  simp only [pst, wayS, ps_mono hF (Nat.le_max_left F G), bnd, ps_mono hG (Nat.le_max_right F G)]
theorem ev3_w_err (h : Ev N M 4 .leaf s o (.ok (a, 87 :: r))) (h2 : Ev N M 3 .leaf (skp r) o (.error e)) : Ev N M 3 a0 s o (.error e) := by
  obtain ⟨F, hF⟩ := h
  obtain ⟨G, hG⟩ := h2
  refine Ev.mk ⟨max F G, ?_⟩
  simp only [pst, wayS, ps_mono hF (Nat.le_max_left F G), bnd, ps_mono hG (Nat.le_max_right F G)]

theorem ev5_end (h : ∀ r, s ≠ 47 :: r) : Ev N M 5 a s o (.ok (a, s)) := by
  refine Ev.mk ⟨0, ?_⟩
  simp only [pst, loopS]
  split
  · split
    · rename_i hc
      subst hc
      exact absurd rfl (h _)
    · rfl
  · rfl
theorem ev5_err (h : Ev N M 2 .leaf (skp r) o (.error e)) : Ev N M 5 a (47 :: r) o (.error e) := by
  obtain ⟨F, hF⟩ := h
  exact Ev.mk ⟨F, by simp only [pst, loopS, hF, bnd, if_true]⟩
theorem ev5_go (h : Ev N M 2 .leaf (skp r) o (.ok (b, s2))) (h2 : Ev N M 5 (tw 6 a b) s2 o q) : Ev N M 5 a (47 :: r) o q := by
  obtain ⟨F, hF⟩ := h
  obtain ⟨G, hG⟩ := h2
  refine Ev.mk ⟨max F G, ?_⟩
  simp only [pst, loopS, ps_mono hF (Nat.le_max_left F G), bnd, ps_mono hG (Nat.le_max_right F G), if_true]

theorem ev6_end (h : ∀ r, s ≠ 38 :: r) : Ev N M 6 a s o (.ok (a, s)) := by
  refine Ev.mk ⟨0, ?_⟩
  simp only [pst, loopS]
  split
  · split
    · rename_i hc
      subst hc
      exact absurd rfl (h _)
    · rfl
  · rfl
theorem ev6_err (h : Ev N M 3 .leaf (skp r) o (.error e)) : Ev N M 6 a (38 :: r) o (.error e) := by
  obtain ⟨F, hF⟩ := h
  exact Ev.mk ⟨F, by simp only [pst, loopS, hF, bnd, if_true]⟩
theorem ev6_go (h : Ev N M 3 .leaf (skp r) o (.ok (b, s2))) (h2 : Ev N M 6 (tw 5 a b) s2 o q) : Ev N M 6 a (38 :: r) o q := by
  obtain ⟨F, hF⟩ := h
  obtain ⟨G, hG⟩ := h2
  refine Ev.mk ⟨max F G, ?_⟩
  simp only [pst, loopS, ps_mono hF (Nat.le_max_left F G), bnd, ps_mono hG (Nat.le_max_right F G), if_true]

theorem ev4_deep {c : UInt8} (h : o = 20) (hc : c = 40 ∨ ∃ k, sgK c = some k) : Ev N M 4 a0 (c :: r) o (.error (5, r.length + 1)) := by
  refine Ev.mk ⟨0, ?_⟩
  simp only [pst, sngl]
  rcases hc with rfl | ⟨k, hk⟩
  · rw [if_pos rfl, if_pos h]
  · have : ¬ c = 40 := by rintro rfl; simp [sgK] at hk
    rw [if_neg this, hk]
    simp only [if_pos h]
theorem ev4_par (h : o ≠ 20) (h1 : Ev N M 0 .leaf (skp r) (o + 1) (.ok (a, 41 :: s2))) : Ev N M 4 a0 (40 :: r) o (.ok (a, skp s2)) := by
  obtain ⟨F, hF⟩ := h1
  refine Ev.mk ⟨F, ?_⟩
  simp only [pst, sngl, if_true, if_neg h, hF, bnd]
theorem ev4_par_wrong (h : o ≠ 20) (h1 : Ev N M 0 .leaf (skp r) (o + 1) (.ok (a, s1))) (hn : ∀ r, s1 ≠ 41 :: r) : Ev N M 4 a0 (40 :: r) o (.error (wrg N M s1, s1.length)) := by
  obtain ⟨F, hF⟩ := h1
  refine Ev.mk ⟨F, ?_⟩
  simp only [pst, sngl, if_true, if_neg h, hF, bnd]
theorem ev4_par_err (h : o ≠ 20) (h1 : Ev N M 0 .leaf (skp r) (o + 1) (.error e)) : Ev N M 4 a0 (40 :: r) o (.error e) := by
  obtain ⟨F, hF⟩ := h1
  refine Ev.mk ⟨F, ?_⟩
  simp only [pst, sngl, if_true, if_neg h, hF, bnd]
theorem ev4_sgn {c : UInt8} {k : Int} (hk : sgK c = some k) (h : o ≠ 20) (h1 : Ev N M 4 .leaf (skp r) (o + 1) (.ok (a, s1))) : Ev N M 4 a0 (c :: r) o (.ok (on k a, s1)) := by
  obtain ⟨F, hF⟩ := h1
  refine Ev.mk ⟨F, ?_⟩
  have : ¬ c = 40 := by rintro rfl; simp [sgK] at hk
  simp only [pst, sngl, if_neg this, hk, if_neg h, hF, bnd]
theorem ev4_sgn_err {c : UInt8} {k : Int} (hk : sgK c = some k) (h : o ≠ 20) (h1 : Ev N M 4 .leaf (skp r) (o + 1) (.error e)) : Ev N M 4 a0 (c :: r) o (.error e) := by
  obtain ⟨F, hF⟩ := h1
  refine Ev.mk ⟨F, ?_⟩
  have : ¬ c = 40 := by rintro rfl; simp [sgK] at hk
  simp only [pst, sngl, if_neg this, hk, if_neg h, hF, bnd]
theorem ev4_leaf (hc : ∀ c r, s = c :: r → c ≠ 40 ∧ sgK c = none) (h : lf N M (wrd s) = some t) : Ev N M 4 a0 s o (.ok (t, skp (s.drop (wrd s).length))) := by
  refine Ev.mk ⟨0, ?_⟩
  cases s with
  | nil => exact absurd h (by simp [wrd, lf_nil])
  | cons c r =>
    obtain ⟨h1, h2⟩ := hc c r rfl
    simp only [pst, sngl, if_neg h1, h2, h]
theorem ev4_wrong (hc : ∀ c r, s = c :: r → c ≠ 40 ∧ sgK c = none) (h : lf N M (wrd s) = none) : Ev N M 4 a0 s o (.error (wrg N M s, s.length)) := by
  refine Ev.mk ⟨0, ?_⟩
  cases s with
  | nil => rfl
  | cons c r =>
    obtain ⟨h1, h2⟩ := hc c r rfl
    simp only [pst, sngl, if_neg h1, h2, h]
    rfl
end

end Go.Proofs.YtgpjlgffmlkkoaaDoor
