/- What is read gets no longer; its atoms have words. -/
import Derived.Test.YtgpjlgffmlkkoaaDoorRdr
namespace Go.Proofs.YtgpjlgffmlkkoaaDoor

theorem bnd_ok {x : Option Rs} {f : Fml → List UInt8 → Option Rs} {p : Fml × List UInt8} (h : bnd x f = some (.ok p)) : ∃ a s, x = some (.ok (a, s)) ∧ f a s = some (.ok p) := by
  cases x with
  | none => simp [bnd] at h
  | some y =>
    cases y with
    | error e => simp [bnd] at h
    | ok q => exact ⟨q.1, q.2, rfl, h⟩

/-- What holds of what is read: nothing is longer, and P of each formula. -/
theorem ps_inv {N : Nat} {M : Nat → ByteArray} (P : Fml → Prop) (hl : ∀ w t, lf N M w = some t → P t) (h1 : ∀ k a, P a → P (on k a)) (h2 : ∀ k a b, P a → P b → P (tw k a b)) :
    ∀ (F lv : Nat) (a : Fml) (s : List UInt8) (o : Nat) (t : Fml) (s' : List UInt8), (lv = 5 ∨ lv = 6 ∨ 6 < lv → P a) → ps N M F lv a s o = some (.ok (t, s')) → s'.length ≤ s.length ∧ P t
  | 0, _, _, _, _, _, _, _, h => by simp [ps] at h
  | F + 1, lv, a, s, o, t, s', hP, h => by
    have ih := ps_inv P hl h1 h2 F
    have hsk := skp_le
    have h' : pst N M (ps N M F) lv a s o = some (.ok (t, s')) := h
    unfold pst at h'
    split at h'
    · unfold formS at h'
      obtain ⟨x, y, e1, e2⟩ := bnd_ok h'
      obtain ⟨i1, i2⟩ := ih _ _ _ _ _ _ (by omega) e1
      split at e2
      · obtain ⟨x2, y2, e3, e4⟩ := bnd_ok e2
        obtain ⟨i3, i4⟩ := ih _ _ _ _ _ _ (by omega) e3
        simp only [Option.some.injEq, Except.ok.injEq, Prod.mk.injEq] at e4
        obtain ⟨rfl, rfl⟩ := e4
        have hq := Nat.le_trans i3 (hsk _)
        simp only [List.length_cons] at i1
        exact ⟨by omega, h2 _ _ _ (h1 _ _ i2) i4⟩
      · simp only [Option.some.injEq, Except.ok.injEq, Prod.mk.injEq] at e2
        obtain ⟨rfl, rfl⟩ := e2
        exact ⟨i1, i2⟩
    · obtain ⟨x, y, e1, e2⟩ := bnd_ok h'
      obtain ⟨i1, i2⟩ := ih _ _ _ _ _ _ (by omega) e1
      obtain ⟨i3, i4⟩ := ih _ _ _ _ _ _ (fun _ => i2) e2
      exact ⟨by omega, i4⟩
    · obtain ⟨x, y, e1, e2⟩ := bnd_ok h'
      obtain ⟨i1, i2⟩ := ih _ _ _ _ _ _ (by omega) e1
      obtain ⟨i3, i4⟩ := ih _ _ _ _ _ _ (fun _ => i2) e2
      exact ⟨by omega, i4⟩
    · unfold wayS at h'
      obtain ⟨x, y, e1, e2⟩ := bnd_ok h'
      obtain ⟨i1, i2⟩ := ih _ _ _ _ _ _ (by omega) e1
      split at e2
      · obtain ⟨x2, y2, e3, e4⟩ := bnd_ok e2
        obtain ⟨i3, i4⟩ := ih _ _ _ _ _ _ (by omega) e3
        simp only [Option.some.injEq, Except.ok.injEq, Prod.mk.injEq] at e4
        obtain ⟨rfl, rfl⟩ := e4
        have hq := Nat.le_trans i3 (hsk _)
        simp only [List.length_cons] at i1
        exact ⟨by omega, h2 _ _ _ i2 i4⟩
      · obtain ⟨x2, y2, e3, e4⟩ := bnd_ok e2
        obtain ⟨i3, i4⟩ := ih _ _ _ _ _ _ (by omega) e3
        simp only [Option.some.injEq, Except.ok.injEq, Prod.mk.injEq] at e4
        obtain ⟨rfl, rfl⟩ := e4
        have hq := Nat.le_trans i3 (hsk _)
        simp only [List.length_cons] at i1
        exact ⟨by omega, h2 _ _ _ i2 i4⟩
      · obtain ⟨x2, y2, e3, e4⟩ := bnd_ok e2
        obtain ⟨i3, i4⟩ := ih _ _ _ _ _ _ (by omega) e3
        simp only [Option.some.injEq, Except.ok.injEq, Prod.mk.injEq] at e4
        obtain ⟨rfl, rfl⟩ := e4
        have hq := Nat.le_trans i3 (hsk _)
        simp only [List.length_cons] at i1
        exact ⟨by omega, h2 _ _ _ i4 (h2 _ _ _ i2 i4)⟩
      · simp only [Option.some.injEq, Except.ok.injEq, Prod.mk.injEq] at e2
        obtain ⟨rfl, rfl⟩ := e2
        exact ⟨i1, i2⟩
    · unfold sngl at h'
      split at h'
      · simp at h'
      · rename_i c r
        split at h'
        · split at h'
          · simp at h'
          · obtain ⟨x, y, e1, e2⟩ := bnd_ok h'
            obtain ⟨i1, i2⟩ := ih _ _ _ _ _ _ (by omega) e1
            split at e2
            · simp only [Option.some.injEq, Except.ok.injEq, Prod.mk.injEq] at e2
              obtain ⟨rfl, rfl⟩ := e2
              have h3 := Nat.le_trans i1 (hsk _)
              refine ⟨Nat.le_trans (hsk _) ?_, i2⟩
              simp only [List.length_cons] at h3 ⊢
              omega
            · simp at e2
        · split at h'
          · split at h'
            · simp at h'
            · obtain ⟨x, y, e1, e2⟩ := bnd_ok h'
              obtain ⟨i1, i2⟩ := ih _ _ _ _ _ _ (by omega) e1
              simp only [Option.some.injEq, Except.ok.injEq, Prod.mk.injEq] at e2
              obtain ⟨rfl, rfl⟩ := e2
              have h3 := hsk r
              simp only [List.length_cons]
              exact ⟨by omega, h1 _ _ i2⟩
          · split at h'
            · rename_i t' hlf
              simp only [Option.some.injEq, Except.ok.injEq, Prod.mk.injEq] at h'
              obtain ⟨rfl, rfl⟩ := h'
              have h3 := hsk ((c :: r).drop (wrd (c :: r)).length)
              rw [List.length_drop] at h3
              exact ⟨by omega, hl _ _ hlf⟩
            · simp at h'
    · unfold loopS at h'
      split at h'
      · split at h'
        · obtain ⟨x, y, e1, e2⟩ := bnd_ok h'
          obtain ⟨i1, i2⟩ := ih _ _ _ _ _ _ (by omega) e1
          obtain ⟨i3, i4⟩ := ih _ _ _ _ _ _ (fun _ => h2 _ _ _ (hP (by omega)) i2) e2
          have hq := Nat.le_trans i1 (hsk _)
          simp only [List.length_cons]
          exact ⟨by omega, i4⟩
        · simp only [Option.some.injEq, Except.ok.injEq, Prod.mk.injEq] at h'
          obtain ⟨rfl, rfl⟩ := h'
          exact ⟨Nat.le_refl _, hP (by omega)⟩
      · simp only [Option.some.injEq, Except.ok.injEq, Prod.mk.injEq] at h'
        obtain ⟨rfl, rfl⟩ := h'
        exact ⟨Nat.le_refl _, hP (by omega)⟩
    · rename_i n0 n1 n2 n3 n4 n5
      have hP' : P a := hP (by
        have m0 : ¬ lv = 0 := n0
        have m1 : ¬ lv = 1 := n1
        have m2 : ¬ lv = 2 := n2
        have m3 : ¬ lv = 3 := n3
        have m4 : ¬ lv = 4 := n4
        have m5 : ¬ lv = 5 := n5
        omega)
      unfold loopS at h'
      split at h'
      · split at h'
        · obtain ⟨x, y, e1, e2⟩ := bnd_ok h'
          obtain ⟨i1, i2⟩ := ih _ _ _ _ _ _ (by omega) e1
          obtain ⟨i3, i4⟩ := ih _ _ _ _ _ _ (fun _ => h2 _ _ _ hP' i2) e2
          have hq := Nat.le_trans i1 (hsk _)
          simp only [List.length_cons]
          exact ⟨by omega, i4⟩
        · simp only [Option.some.injEq, Except.ok.injEq, Prod.mk.injEq] at h'
          obtain ⟨rfl, rfl⟩ := h'
          exact ⟨Nat.le_refl _, hP'⟩
      · simp only [Option.some.injEq, Except.ok.injEq, Prod.mk.injEq] at h'
        obtain ⟨rfl, rfl⟩ := h'
        exact ⟨Nat.le_refl _, hP'⟩

theorem Ev.len {N : Nat} {M : Nat → ByteArray} {lv : Nat} {a t : Fml} {s s' : List UInt8} {o : Nat} (h : Ev N M lv a s o (.ok (t, s'))) : s'.length ≤ s.length := by
  obtain ⟨F, hF⟩ := h
  exact (ps_inv (fun _ => True) (fun _ _ _ => trivial) (fun _ _ _ => trivial) (fun _ _ _ _ _ => trivial) F lv a s o t s' (fun _ => trivial) hF).1

end Go.Proofs.YtgpjlgffmlkkoaaDoor
