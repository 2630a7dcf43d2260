/- A printed formula is read back. -/
import Derived.Test.YtgpjlgffmlkkoaaDoorPsr
namespace Go.Proofs.YtgpjlgffmlkkoaaDoor

section
variable {N : Nat} {M : Nat → ByteArray}

/-- No word goes on there. -/
def Fw (s : List UInt8) : Prop := ∀ c r, s = c :: r → isL c = false
/-- No U, R or W comes next. -/
def F3 (s : List UInt8) : Prop := Fw s ∧ ∀ r, skp s ≠ 85 :: r ∧ skp s ≠ 82 :: r ∧ skp s ≠ 87 :: r
def F1 (s : List UInt8) : Prop := F3 s ∧ ∀ r, skp s ≠ 38 :: r
def F0 (s : List UInt8) : Prop := F1 s ∧ ∀ r, skp s ≠ 47 :: r ∧ skp s ≠ 45 :: 62 :: r

/-- It is too deep, within that. -/
def Dp (N : Nat) (M : Nat → ByteArray) (L : Nat) (p s : List UInt8) (o : Nat) : Prop := ∃ m, s.length < m ∧ Ev N M L .leaf (p ++ s) o (.error (5, m))

def R4 (N : Nat) (M : Nat → ByteArray) (p : List UInt8) (t : Fml) : Prop := ∀ s o, Fw s → Ev N M 4 .leaf (p ++ s) o (.ok (t, skp s)) ∨ Dp N M 4 p s o
def R3 (N : Nat) (M : Nat → ByteArray) (p : List UInt8) (t : Fml) : Prop := ∀ s o, F3 s → Ev N M 3 .leaf (p ++ s) o (.ok (t, skp s)) ∨ Dp N M 3 p s o
def R2 (N : Nat) (M : Nat → ByteArray) (p : List UInt8) (t : Fml) : Prop := ∀ s o, F3 s → (∀ q, Ev N M 6 t (skp s) o q → Ev N M 2 .leaf (p ++ s) o q) ∨ Dp N M 2 p s o
def R1 (N : Nat) (M : Nat → ByteArray) (p : List UInt8) (t : Fml) : Prop := ∀ s o, F1 s → (∀ q, Ev N M 5 t (skp s) o q → Ev N M 1 .leaf (p ++ s) o q) ∨ Dp N M 1 p s o
def R0 (N : Nat) (M : Nat → ByteArray) (p : List UInt8) (t : Fml) : Prop := ∀ s o, F0 s → Ev N M 0 .leaf (p ++ s) o (.ok (t, skp s)) ∨ Dp N M 0 p s o

theorem r43 {p : List UInt8} {t : Fml} (h : R4 N M p t) : R3 N M p t := fun s o hs => by
  rcases h s o hs.1 with h1 | ⟨m, hm, h1⟩
  · exact Or.inl (ev3_ok h1 (fun r => (hs.2 r).1) (fun r => (hs.2 r).2.1) (fun r => (hs.2 r).2.2))
  · exact Or.inr ⟨m, hm, ev3_err h1⟩
theorem r32 {p : List UInt8} {t : Fml} (h : R3 N M p t) : R2 N M p t := fun s o hs => by
  rcases h s o hs with h1 | ⟨m, hm, h1⟩
  · exact Or.inl fun q hq => ev2_ok h1 hq
  · exact Or.inr ⟨m, hm, ev2_err h1⟩
theorem r21 {p : List UInt8} {t : Fml} (h : R2 N M p t) : R1 N M p t := fun s o hs => by
  rcases h s o hs.1 with h1 | ⟨m, hm, h1⟩
  · exact Or.inl fun q hq => ev1_ok (h1 _ (ev6_end hs.2)) hq
  · exact Or.inr ⟨m, hm, ev1_err h1⟩
theorem r10 {p : List UInt8} {t : Fml} (h : R1 N M p t) : R0 N M p t := fun s o hs => by
  rcases h s o hs.1 with h1 | ⟨m, hm, h1⟩
  · exact Or.inl (ev0_ok (h1 _ (ev5_end fun r => (hs.2 r).1)) fun r => (hs.2 r).2)
  · exact Or.inr ⟨m, hm, ev0_err h1⟩

/-- It begins with no blank. -/
def Nb (p : List UInt8) : Prop := ∃ c r, p = c :: r ∧ c ≠ 32
theorem Nb.skp {p s : List UInt8} (h : Nb p) : skp (p ++ s) = p ++ s := by
  obtain ⟨c, r, rfl, hc⟩ := h
  show (if c = 32 then _ else _) = _
  rw [if_neg hc]
  rfl
theorem Nb.skp1 {p s : List UInt8} (h : Nb p) : Go.Proofs.YtgpjlgffmlkkoaaDoor.skp (32 :: (p ++ s)) = p ++ s := by
  show (if (32 : UInt8) = 32 then Go.Proofs.YtgpjlgffmlkkoaaDoor.skp (p ++ s) else _) = _
  rw [if_pos rfl, h.skp]
theorem Nb.app {p q : List UInt8} (h : Nb p) : Nb (p ++ q) := by
  obtain ⟨c, r, rfl, hc⟩ := h
  exact ⟨c, r ++ q, rfl, hc⟩

theorem f0_par (s : List UInt8) : F0 (41 :: s) := by
  have e : skp (41 :: s) = 41 :: s := rfl
  refine ⟨⟨⟨fun c r h => ?_, fun r => ?_⟩, fun r => ?_⟩, fun r => ?_⟩
  · injection h with h _; subst h; rfl
  · rw [e]; simp
  · rw [e]; simp
  · rw [e]; simp
theorem f0_nil : F0 [] := by
  refine ⟨⟨⟨fun c r h => (nomatch h), fun r => ?_⟩, fun r => ?_⟩, fun r => ?_⟩ <;> simp [skp]

theorem r4_par {p : List UInt8} {t : Fml} (h : R0 N M p t) (hp : Nb p) : R4 N M (40 :: (p ++ [41])) t := fun s o _ => by
  have e : (40 :: (p ++ [41])) ++ s = 40 :: (p ++ 41 :: s) := by simp
  by_cases ho : o = 20
  · refine Or.inr ⟨(p ++ 41 :: s).length + 1, by simp; omega, ?_⟩
    rw [e]
    exact ev4_deep ho (Or.inl rfl)
  · rcases h (41 :: s) (o + 1) (f0_par s) with h1 | ⟨m, hm, h1⟩
    · left
      rw [e]
      refine ev4_par ho ?_
      rw [hp.skp]
      exact h1
    · right
      refine ⟨m, by simp at hm; omega, ?_⟩
      rw [e]
      refine ev4_par_err ho ?_
      rw [hp.skp]
      exact h1

theorem r4_sgn {p : List UInt8} {t : Fml} {c : UInt8} {k : Int} (hk : sgK c = some k) (h : R4 N M p t) (hp : Nb p) (b : List UInt8) (hb : b = [] ∨ b = [32]) : R4 N M (c :: (b ++ p)) (on k t) := fun s o hs => by
  have e : (c :: (b ++ p)) ++ s = c :: (b ++ (p ++ s)) := by simp
  have e2 : skp (b ++ (p ++ s)) = p ++ s := by
    rcases hb with rfl | rfl
    · exact hp.skp
    · exact hp.skp1
  by_cases ho : o = 20
  · refine Or.inr ⟨(b ++ (p ++ s)).length + 1, by simp; omega, ?_⟩
    rw [e]
    exact ev4_deep ho (Or.inr ⟨k, hk⟩)
  · rcases h s (o + 1) hs with h1 | ⟨m, hm, h1⟩
    · left
      rw [e]
      refine ev4_sgn hk ho ?_
      rw [e2]
      exact h1
    · right
      refine ⟨m, hm, ?_⟩
      rw [e]
      refine ev4_sgn_err hk ho ?_
      rw [e2]
      exact h1

theorem fw_blank (s : List UInt8) : Fw (32 :: s) := fun c r h => by injection h with h _; subst h; rfl

theorem f3_of {c : UInt8} (s : List UInt8) (hc : c ≠ 32 ∧ c ≠ 85 ∧ c ≠ 82 ∧ c ≠ 87) : F3 (32 :: c :: s) := by
  have e : skp (32 :: c :: s) = c :: s := by
    show (if (32 : UInt8) = 32 then (if c = 32 then _ else _) else _) = _
    rw [if_pos rfl, if_neg hc.1]
  refine ⟨fw_blank _, fun r => ?_⟩
  rw [e]
  refine ⟨fun h => ?_, fun h => ?_, fun h => ?_⟩ <;> · injection h with h _; first | exact hc.2.1 h | exact hc.2.2.1 h | exact hc.2.2.2 h

theorem r2_and {p1 p2 : List UInt8} {a b : Fml} (h1 : R2 N M p1 a) (h2 : R3 N M p2 b) (hp : Nb p2) : R2 N M (p1 ++ ([32, 38, 32] ++ p2)) (tw 5 a b) := fun s o hs => by
  have e : (p1 ++ ([32, 38, 32] ++ p2)) ++ s = p1 ++ (32 :: 38 :: 32 :: (p2 ++ s)) := by simp
  have e1 : skp (32 :: 38 :: 32 :: (p2 ++ s)) = 38 :: 32 :: (p2 ++ s) := rfl
  rcases h1 (32 :: 38 :: 32 :: (p2 ++ s)) o (f3_of _ (by decide)) with g1 | ⟨m, hm, g1⟩
  · rw [e1] at g1
    rcases h2 s o hs with g2 | ⟨m, hm, g2⟩
    · refine Or.inl fun q hq => ?_
      rw [e]
      refine g1 q (ev6_go (b := b) (s2 := skp s) ?_ hq)
      rw [hp.skp1]
      exact g2
    · refine Or.inr ⟨m, hm, ?_⟩
      rw [e]
      refine g1 _ (ev6_err ?_)
      rw [hp.skp1]
      exact g2
  · refine Or.inr ⟨m, by simp at hm; omega, ?_⟩
    rw [e]
    exact g1

theorem r1_or {p1 p2 : List UInt8} {a b : Fml} (h1 : R1 N M p1 a) (h2 : R2 N M p2 b) (hp : Nb p2) : R1 N M (p1 ++ ([32, 47, 32] ++ p2)) (tw 6 a b) := fun s o hs => by
  have e : (p1 ++ ([32, 47, 32] ++ p2)) ++ s = p1 ++ (32 :: 47 :: 32 :: (p2 ++ s)) := by simp
  have e1 : skp (32 :: 47 :: 32 :: (p2 ++ s)) = 47 :: 32 :: (p2 ++ s) := rfl
  have f1 : F1 (32 :: 47 :: 32 :: (p2 ++ s)) := ⟨f3_of _ (by decide), fun r => by rw [e1]; simp⟩
  rcases h1 (32 :: 47 :: 32 :: (p2 ++ s)) o f1 with g1 | ⟨m, hm, g1⟩
  · rw [e1] at g1
    rcases h2 s o hs.1 with g2 | ⟨m, hm, g2⟩
    · refine Or.inl fun q hq => ?_
      rw [e]
      refine g1 q (ev5_go (b := b) (s2 := skp s) ?_ hq)
      rw [hp.skp1]
      exact g2 _ (ev6_end hs.2)
    · refine Or.inr ⟨m, hm, ?_⟩
      rw [e]
      refine g1 _ (ev5_err ?_)
      rw [hp.skp1]
      exact g2
  · refine Or.inr ⟨m, by simp at hm; omega, ?_⟩
    rw [e]
    exact g1

theorem r3_u {p1 p2 : List UInt8} {a b : Fml} (h1 : R4 N M p1 a) (h2 : R3 N M p2 b) (hp : Nb p2) : R3 N M (p1 ++ ([32, 85, 32] ++ p2)) (tw 8 a b) := fun s o hs => by
  have e : (p1 ++ ([32, 85, 32] ++ p2)) ++ s = p1 ++ (32 :: 85 :: 32 :: (p2 ++ s)) := by simp
  have e1 : skp (32 :: 85 :: 32 :: (p2 ++ s)) = 85 :: 32 :: (p2 ++ s) := rfl
  rcases h1 (32 :: 85 :: 32 :: (p2 ++ s)) o (fw_blank _) with g1 | ⟨m, hm, g1⟩
  · rw [e1] at g1
    rcases h2 s o hs with g2 | ⟨m, hm, g2⟩
    · left
      rw [e]
      refine ev3_u g1 ?_
      rw [hp.skp1]
      exact g2
    · refine Or.inr ⟨m, hm, ?_⟩
      rw [e]
      refine ev3_u_err g1 ?_
      rw [hp.skp1]
      exact g2
  · refine Or.inr ⟨m, by simp at hm; omega, ?_⟩
    rw [e]
    exact ev3_err g1

theorem r3_r {p1 p2 : List UInt8} {a b : Fml} (h1 : R4 N M p1 a) (h2 : R3 N M p2 b) (hp : Nb p2) : R3 N M (p1 ++ ([32, 82, 32] ++ p2)) (tw 9 a b) := fun s o hs => by
  have e : (p1 ++ ([32, 82, 32] ++ p2)) ++ s = p1 ++ (32 :: 82 :: 32 :: (p2 ++ s)) := by simp
  have e1 : skp (32 :: 82 :: 32 :: (p2 ++ s)) = 82 :: 32 :: (p2 ++ s) := rfl
  rcases h1 (32 :: 82 :: 32 :: (p2 ++ s)) o (fw_blank _) with g1 | ⟨m, hm, g1⟩
  · rw [e1] at g1
    rcases h2 s o hs with g2 | ⟨m, hm, g2⟩
    · left
      rw [e]
      refine ev3_r g1 ?_
      rw [hp.skp1]
      exact g2
    · refine Or.inr ⟨m, hm, ?_⟩
      rw [e]
      refine ev3_r_err g1 ?_
      rw [hp.skp1]
      exact g2
  · refine Or.inr ⟨m, by simp at hm; omega, ?_⟩
    rw [e]
    exact ev3_err g1

theorem wrd_app {p s : List UInt8} (hp : ∀ c, c ∈ p → isL c = true) (hs : Fw s) : wrd (p ++ s) = p := by
  unfold wrd
  induction p with
  | nil =>
    cases s with
    | nil => rfl
    | cons c r => simp [hs c r rfl]
  | cons c p ih =>
    rw [List.cons_append, List.takeWhile_cons, if_pos (hp c (by simp)), ih (fun c h => hp c (by simp [h]))]

theorem r4_word {p : List UInt8} {t : Fml} (hp : ∀ c, c ∈ p → isL c = true) (h0 : p ≠ []) (hl : lf N M p = some t) : R4 N M p t := fun s o hs => by
  left
  have h1 : Ev N M 4 .leaf (p ++ s) o (.ok (t, skp ((p ++ s).drop (wrd (p ++ s)).length))) := by
    refine ev4_leaf (fun c r e => ?_) (by rw [wrd_app hp hs]; exact hl)
    cases p with
    | nil => exact absurd rfl h0
    | cons d q =>
      injection e with e _
      have h2 := hp d (by simp)
      subst e
      unfold isL at h2
      rw [decide_eq_true_eq] at h2
      have hne : ∀ x : UInt8, x.toNat < 97 → d ≠ x := fun x hx e => by subst e; omega
      refine ⟨hne 40 (by decide), ?_⟩
      unfold sgK
      rw [if_neg (hne 33 (by decide)), if_neg (hne 88 (by decide)), if_neg (hne 70 (by decide)), if_neg (hne 71 (by decide))]
  rw [wrd_app hp hs, List.drop_left] at h1
  exact h1

theorem fml_nd : ∀ t : Fml, t.cnt = 0 → t = nd t.kind t.num
  | ⟨k, n, c, kids⟩, h => by
    have h' : c = 0 := h
    subst h'
    have : kids = fun i => i.elim0 := funext fun i => i.elim0
    rw [this]
    rfl
theorem fml_on : ∀ t : Fml, t.cnt = 1 → t.num = 0 → t = on t.kind (t.kid 0)
  | ⟨k, n, c, kids⟩, h, h2 => by
    have h' : c = 1 := h
    have h2' : n = 0 := h2
    subst h' h2'
    have : kids = fun _ => kids ⟨0, by omega⟩ := funext fun i => by
      have : i = ⟨0, by omega⟩ := Fin.ext (by omega)
      rw [this]
    show Fml.mk k 0 1 kids = Fml.mk k 0 1 fun _ => _
    rw [this]
    rfl
theorem fml_tw : ∀ t : Fml, t.cnt = 2 → t.num = 0 → t = tw t.kind (t.kid 0) (t.kid 1)
  | ⟨k, n, c, kids⟩, h, h2 => by
    have h' : c = 2 := h
    have h2' : n = 0 := h2
    subst h' h2'
    show Fml.mk k 0 2 kids = Fml.mk k 0 2 fun i => if i.val = 0 then kids ⟨0, by omega⟩ else kids ⟨1, by omega⟩
    have : kids = fun i => if i.val = 0 then kids ⟨0, by omega⟩ else kids ⟨1, by omega⟩ := funext fun i => by
      by_cases e : i.val = 0
      · rw [if_pos e]
        congr 1
        exact Fin.ext e
      · rw [if_neg e]
        congr 1
        exact Fin.ext (by show i.val = 1; omega)
    exact congrArg (Fml.mk k 0 2) this

theorem fit_num {t : Fml} (h : fit t = true) : (t.kind = 3 → 0 ≤ t.num ∧ t.num ≤ 63) ∧ (t.kind ≠ 3 → t.num = 0) := by
  unfold fit at h
  rw [Bool.and_eq_true] at h
  refine ⟨fun e => ?_, fun e => ?_⟩
  · have := h.2
    rw [if_pos e, decide_eq_true_eq] at this
    exact this
  · have := h.2
    rw [if_neg e, decide_eq_true_eq] at this
    exact this

theorem word_ok {x : Nat} (hx : x ≤ 63) (h : wok N M x = true) : (∀ c, c ∈ (wd N M x).data.toList → isL c = true) ∧ (wd N M x).data.toList ≠ [] ∧ lf N M (wd N M x).data.toList = some (nd 3 x) := by
  by_cases e : x = 63
  · subst e
    have e1 : wd N M 63 = silW := if_pos rfl
    rw [e1]
    refine ⟨by decide, by decide, ?_⟩
    unfold lf
    rw [if_neg (by decide), if_neg (by decide)]
    have hs : sil (byt silW.data.toList) = true := by
      unfold sil
      rw [byt_data, ByteArray.toList_eq]
      decide
    have hb : atB N M (byt silW.data.toList) = true := by unfold atB; rw [hs]; rfl
    have hv : atV N M (byt silW.data.toList) = 63 := by unfold atV; rw [if_pos hs]
    rw [if_pos hb, hv]
    rfl
  · have hn : nmOk N M x = true := by
      unfold wok at h
      rw [Bool.or_eq_true, decide_eq_true_eq] at h
      rcases h with h | h
      · exact absurd h e
      · exact h
    have e1 : wd N M x = M x := by
      unfold wd
      rw [if_neg e, if_pos hn]
    rw [e1]
    have h2 := (nmOk_out hn).2.1
    obtain ⟨v1, v2⟩ := at_of_ok (by omega) hn
    have h3 := h2
    unfold nameOk at h3
    simp only [Bool.and_eq_true, decide_eq_true_eq, Bool.not_eq_true', beq_eq_false_iff_ne] at h3
    obtain ⟨⟨⟨⟨⟨s1, s2⟩, s3⟩, s4⟩, s5⟩, s6⟩ := h3
    rw [ByteArray.toList_eq] at s4 s5
    refine ⟨fun c hc => ?_, fun h0 => ?_, ?_⟩
    · obtain ⟨i, hi, rfl⟩ := List.getElem_of_mem hc
      have hi' : i < (M x).size := by rw [← bytes_len]; exact hi
      have := s3 i hi'
      unfold isL
      rw [decide_eq_true_eq]
      have e2 : (M x).data.toList[i] = (M x)[i] := by
        rw [Array.getElem_toList]
        rfl
      rw [e2]
      omega
    · have := bytes_len (M x)
      rw [h0] at this
      simp at this
      omega
    · unfold lf
      rw [if_neg s4, if_neg s5, byt_data, if_pos v2, v1]

/-- The level at which a formula's text stands. -/
def Rl (N : Nat) (M : Nat → ByteArray) (t : Fml) : Prop := Nb (tx N M t) ∧ R1 N M (tx N M t) t ∧ (t.kind ≠ 6 → R2 N M (tx N M t) t) ∧ (t.kind ≠ 6 → t.kind ≠ 5 → R3 N M (tx N M t) t) ∧ (ar t.kind < 2 → R4 N M (tx N M t) t)

theorem rl_par {t : Fml} (h : Rl N M t) : Nb (par false (tx N M t)) ∧ R4 N M (par false (tx N M t)) t :=
  ⟨⟨40, _, rfl, by decide⟩, r4_par (r10 h.2.1) h.1⟩

theorem rl_of4 {t : Fml} (h0 : Nb (tx N M t)) (h : R4 N M (tx N M t) t) : Rl N M t := ⟨h0, r21 (r32 (r43 h)), fun _ => r32 (r43 h), fun _ _ => r43 h, fun _ => h⟩

theorem rl_all : ∀ t : Fml, Wf t → nmd N M t = true → Rl N M t := by
  intro t
  induction t using Fml.ind with
  | h t ih =>
    intro hw hn
    have hf := hw.out.1
    obtain ⟨hk1, hk2, hcnt⟩ := fit_kind hf
    obtain ⟨hn1, hn2⟩ := fit_num hf
    have htx := tx_eq N M t
    rw [nmd_eq] at hn
    by_cases c1 : t.cnt = 1
    · rw [if_pos c1] at hn htx
      have hR := ih 0 (by omega) (hw.out.2 0 (by omega)) hn
      have hkk : t.kind = 4 ∨ t.kind = 7 ∨ t.kind = 10 ∨ t.kind = 11 := by
        rw [c1] at hcnt
        unfold ar at hcnt
        split at hcnt
        · omega
        · split at hcnt
          · assumption
          · split at hcnt <;> omega
      have hnum := hn2 (by omega)
      have ht := fml_on t c1 hnum
      have hp : Nb (par (bare (t.kid 0).kind t.kind 0) (tx N M (t.kid 0))) ∧ R4 N M (par (bare (t.kid 0).kind t.kind 0) (tx N M (t.kid 0))) (t.kid 0) := by
        by_cases ha : ar (t.kid 0).kind < 2
        · have hb : bare (t.kid 0).kind t.kind 0 = true := by unfold bare; rw [if_pos ha]
          rw [hb]
          exact ⟨hR.1, hR.2.2.2.2 ha⟩
        · have hb : bare (t.kid 0).kind t.kind 0 = false := by
            unfold bare
            rw [if_neg ha, if_neg (by omega), if_neg (by omega), if_neg (by omega)]
          rw [hb]
          exact rl_par hR
      generalize par (bare (t.kid 0).kind t.kind 0) (tx N M (t.kid 0)) = p at hp htx
      have h4 : Nb (tx N M t) ∧ R4 N M (tx N M t) t := by
        rw [htx]
        rcases hkk with hk | hk | hk | hk
        · rw [hk] at ht ⊢
          rw [ht]
          exact ⟨⟨33, _, rfl, by decide⟩, r4_sgn (c := 33) rfl hp.2 hp.1 [] (Or.inl rfl)⟩
        · rw [hk] at ht ⊢
          rw [ht]
          exact ⟨⟨88, _, rfl, by decide⟩, r4_sgn (c := 88) rfl hp.2 hp.1 [32] (Or.inr rfl)⟩
        · rw [hk] at ht ⊢
          rw [ht]
          exact ⟨⟨70, _, rfl, by decide⟩, r4_sgn (c := 70) rfl hp.2 hp.1 [32] (Or.inr rfl)⟩
        · rw [hk] at ht ⊢
          rw [ht]
          exact ⟨⟨71, _, rfl, by decide⟩, r4_sgn (c := 71) rfl hp.2 hp.1 [32] (Or.inr rfl)⟩
      exact rl_of4 h4.1 h4.2
    · rw [if_neg c1] at hn htx
      by_cases c2 : t.cnt = 2
      · rw [if_pos c2] at hn htx
        rw [Bool.and_eq_true] at hn
        have hRa := ih 0 (by omega) (hw.out.2 0 (by omega)) hn.2
        have hRb := ih 1 (by omega) (hw.out.2 1 (by omega)) hn.1
        have hkk : t.kind = 5 ∨ t.kind = 6 ∨ t.kind = 8 ∨ t.kind = 9 := by
          rw [c2] at hcnt
          unfold ar at hcnt
          split at hcnt
          · omega
          · split at hcnt
            · omega
            · split at hcnt
              · assumption
              · omega
        have hnum := hn2 (by omega)
        have ht := fml_tw t c2 hnum
        have ha2 : ¬ ar t.kind < 2 := by omega
        have hpa := rl_par hRa
        have hpb := rl_par hRb
        generalize t.kid 0 = a at *
        generalize t.kid 1 = b at *
        rcases hkk with hk | hk | hk | hk
        · rw [hk] at ht htx
          have hA : Nb (par (bare a.kind 5 0) (tx N M a)) ∧ R2 N M (par (bare a.kind 5 0) (tx N M a)) a := by
            cases hb : bare a.kind 5 0
            · exact ⟨hpa.1, r32 (r43 hpa.2)⟩
            · unfold bare at hb
              refine ⟨hRa.1, hRa.2.2.1 fun e => ?_⟩
              rw [e] at hb
              exact absurd hb (by decide)
          have hB : Nb (par (bare b.kind 5 1) (tx N M b)) ∧ R3 N M (par (bare b.kind 5 1) (tx N M b)) b := by
            cases hb : bare b.kind 5 1
            · exact ⟨hpb.1, r43 hpb.2⟩
            · unfold bare at hb
              refine ⟨hRb.1, hRb.2.2.2.1 (fun e => ?_) (fun e => ?_)⟩
              · rw [e] at hb
                exact absurd hb (by decide)
              · rw [e] at hb
                exact absurd hb (by decide)
          have h2 : R2 N M (tx N M t) t := by
            rw [htx]
            conv => arg 4; rw [ht]
            exact r2_and hA.2 hB.2 hB.1
          have h0 : Nb (tx N M t) := by rw [htx]; exact hA.1.app
          exact ⟨h0, r21 h2, fun _ => h2, fun _ e => absurd hk e, fun e => absurd e ha2⟩
        · rw [hk] at ht htx
          have hA : Nb (par (bare a.kind 6 0) (tx N M a)) ∧ R1 N M (par (bare a.kind 6 0) (tx N M a)) a := by
            cases hb : bare a.kind 6 0
            · exact ⟨hpa.1, r21 (r32 (r43 hpa.2))⟩
            · exact ⟨hRa.1, hRa.2.1⟩
          have hB : Nb (par (bare b.kind 6 1) (tx N M b)) ∧ R2 N M (par (bare b.kind 6 1) (tx N M b)) b := by
            cases hb : bare b.kind 6 1
            · exact ⟨hpb.1, r32 (r43 hpb.2)⟩
            · unfold bare at hb
              refine ⟨hRb.1, hRb.2.2.1 (fun e => ?_)⟩
              rw [e] at hb
              exact absurd hb (by decide)
          have h2 : R1 N M (tx N M t) t := by
            rw [htx]
            conv => arg 4; rw [ht]
            exact r1_or hA.2 hB.2 hB.1
          have h0 : Nb (tx N M t) := by rw [htx]; exact hA.1.app
          exact ⟨h0, h2, fun e => absurd hk e, fun e => absurd hk e, fun e => absurd e ha2⟩
        · rw [hk] at ht htx
          have hA : Nb (par (bare a.kind 8 0) (tx N M a)) ∧ R4 N M (par (bare a.kind 8 0) (tx N M a)) a := by
            cases hb : bare a.kind 8 0
            · exact hpa
            · refine ⟨hRa.1, hRa.2.2.2.2 ?_⟩
              unfold bare at hb
              by_cases e : ar a.kind < 2
              · exact e
              · rw [if_neg e, if_neg (by decide), if_neg (by decide), if_pos (by decide)] at hb
                simp at hb
          have hB : Nb (par (bare b.kind 8 1) (tx N M b)) ∧ R3 N M (par (bare b.kind 8 1) (tx N M b)) b := by
            cases hb : bare b.kind 8 1
            · exact ⟨hpb.1, r43 hpb.2⟩
            · unfold bare at hb
              refine ⟨hRb.1, hRb.2.2.2.1 (fun e => ?_) (fun e => ?_)⟩
              · rw [e] at hb
                exact absurd hb (by decide)
              · rw [e] at hb
                exact absurd hb (by decide)
          have h2 : R3 N M (tx N M t) t := by
            rw [htx]
            conv => arg 4; rw [ht]
            exact r3_u hA.2 hB.2 hB.1
          have h0 : Nb (tx N M t) := by rw [htx]; exact hA.1.app
          exact ⟨h0, r21 (r32 h2), fun _ => r32 h2, fun _ _ => h2, fun e => absurd e ha2⟩
        · rw [hk] at ht htx
          have hA : Nb (par (bare a.kind 9 0) (tx N M a)) ∧ R4 N M (par (bare a.kind 9 0) (tx N M a)) a := by
            cases hb : bare a.kind 9 0
            · exact hpa
            · refine ⟨hRa.1, hRa.2.2.2.2 ?_⟩
              unfold bare at hb
              by_cases e : ar a.kind < 2
              · exact e
              · rw [if_neg e, if_neg (by decide), if_neg (by decide), if_pos (by decide)] at hb
                simp at hb
          have hB : Nb (par (bare b.kind 9 1) (tx N M b)) ∧ R3 N M (par (bare b.kind 9 1) (tx N M b)) b := by
            cases hb : bare b.kind 9 1
            · exact ⟨hpb.1, r43 hpb.2⟩
            · unfold bare at hb
              refine ⟨hRb.1, hRb.2.2.2.1 (fun e => ?_) (fun e => ?_)⟩
              · rw [e] at hb
                exact absurd hb (by decide)
              · rw [e] at hb
                exact absurd hb (by decide)
          have h2 : R3 N M (tx N M t) t := by
            rw [htx]
            conv => arg 4; rw [ht]
            exact r3_r hA.2 hB.2 hB.1
          have h0 : Nb (tx N M t) := by rw [htx]; exact hA.1.app
          exact ⟨h0, r21 (r32 h2), fun _ => r32 h2, fun _ _ => h2, fun e => absurd e ha2⟩
      · rw [if_neg c2] at hn htx
        have c0 : t.cnt = 0 := by
          unfold ar at hcnt
          split at hcnt
          · omega
          · split at hcnt
            · omega
            · split at hcnt <;> omega
        have hkk : t.kind = 1 ∨ t.kind = 2 ∨ t.kind = 3 := by
          rw [c0] at hcnt
          unfold ar at hcnt
          split at hcnt
          · assumption
          · split at hcnt
            · omega
            · split at hcnt <;> omega
        have ht := fml_nd t c0
        have key : ∀ p, tx N M t = p → (∀ c, c ∈ p → isL c = true) → p ≠ [] → lf N M p = some t → Rl N M t := fun p e h1 h2 h3 => by
          have hb : Nb p := by
            cases p with
            | nil => exact absurd rfl h2
            | cons c r =>
              refine ⟨c, r, rfl, fun e => ?_⟩
              have := h1 c (by simp)
              rw [e] at this
              exact absurd this (by decide)
          refine rl_of4 (by rw [e]; exact hb) ?_
          rw [e]
          exact r4_word h1 h2 h3
        rcases hkk with hk | hk | hk
        · rw [if_neg (by omega), hk] at htx
          refine key _ htx (by decide) (by decide) ?_
          rw [ht, hk, hn2 (by omega)]
          rfl
        · rw [if_neg (by omega), hk] at htx
          refine key _ htx (by decide) (by decide) ?_
          rw [ht, hk, hn2 (by omega)]
          rfl
        · rw [if_pos hk] at htx hn
          obtain ⟨m1, m2⟩ := hn1 hk
          obtain ⟨g1, g2, g3⟩ := word_ok (N := N) (M := M) (x := t.num.toNat) (by omega) hn
          refine key _ htx g1 g2 ?_
          have e1 : ((t.num.toNat : Nat) : Int) = t.num := by omega
          rw [g3, e1]
          conv => rhs; rw [ht, hk]

/-- A printed formula is read back; or it is too deep, and then that is seen ahead of its end. -/
theorem back_ev {t : Fml} (hw : Wf t) (hn : nmd N M t = true) : Ev N M 0 .leaf (skp (tx N M t)) 0 (.ok (t, [])) ∨ ∃ m, 0 < m ∧ Ev N M 0 .leaf (skp (tx N M t)) 0 (.error (5, m)) := by
  have h := rl_all t hw hn
  have e := h.1.skp (s := [])
  rw [List.append_nil] at e
  rcases r10 h.2.1 [] 0 f0_nil with h1 | ⟨m, hm, h1⟩
  · rw [List.append_nil] at h1
    left
    rw [e]
    exact h1
  · rw [List.append_nil] at h1
    right
    exact ⟨m, hm, by rw [e]; exact h1⟩

end

end Go.Proofs.YtgpjlgffmlkkoaaDoor
