/- Things numbered as they first come: pure. -/
import Derived.Test.YtgahdclbaifcbaaBase
namespace Go.Proofs.Ytgahdclbaifcbaa
open Go.RowKit

section
variable {α : Type} [DecidableEq α]

/-- One more, if it is not there. -/
def nAdd (l : List α) (x : α) : List α := if x ∈ l then l else l ++ [x]
/-- Some more, one behind the other. -/
def nAdds (l xs : List α) : List α := xs.foldl nAdd l

theorem nAdd_pre (l : List α) (x : α) : l <+: nAdd l x := by
  unfold nAdd
  by_cases h : x ∈ l
  · rw [if_pos h]; exact List.prefix_refl _
  · rw [if_neg h]; exact List.prefix_append _ _
theorem mem_nAdd {l : List α} {x y : α} : y ∈ nAdd l x ↔ y ∈ l ∨ y = x := by
  unfold nAdd
  by_cases h : x ∈ l
  · rw [if_pos h]
    exact ⟨Or.inl, fun hh => hh.elim id (fun e => by rw [e]; exact h)⟩
  · rw [if_neg h, List.mem_append, List.mem_singleton]
theorem nAdd_nodup {l : List α} (h : l.Nodup) (x : α) : (nAdd l x).Nodup := by
  unfold nAdd
  by_cases e : x ∈ l
  · rw [if_pos e]; exact h
  · rw [if_neg e]
    refine List.nodup_append.2 ⟨h, by simp, ?_⟩
    intro a ha b hb hab
    rw [List.mem_singleton] at hb
    exact e (by rw [← hb, ← hab]; exact ha)
theorem nAdds_cons (l : List α) (x : α) (xs : List α) : nAdds l (x :: xs) = nAdds (nAdd l x) xs := rfl
theorem nAdds_snoc (l : List α) (xs : List α) (x : α) : nAdds l (xs ++ [x]) = nAdd (nAdds l xs) x := by
  unfold nAdds
  rw [List.foldl_append]
  rfl
theorem nAdds_pre : ∀ (xs l : List α), l <+: nAdds l xs
  | [], _ => List.prefix_refl _
  | x :: xs, l => (nAdd_pre l x).trans (nAdds_pre xs (nAdd l x))
theorem mem_nAdds {y : α} : ∀ (xs l : List α), y ∈ nAdds l xs ↔ y ∈ l ∨ y ∈ xs
  | [], l => by simp [nAdds]
  | x :: xs, l => by
    rw [nAdds_cons, mem_nAdds xs, mem_nAdd, List.mem_cons, or_assoc]
theorem nAdds_nodup : ∀ (xs : List α) {l : List α}, l.Nodup → (nAdds l xs).Nodup
  | [], _, h => h
  | x :: xs, _, h => nAdds_nodup xs (nAdd_nodup h x)

theorem nodup_le {U : List α} : ∀ {l : List α}, l.Nodup → (∀ x ∈ l, x ∈ U) → l.length ≤ U.length := by
  intro l
  induction l generalizing U with
  | nil => intro _ _; exact Nat.zero_le _
  | cons a l ih =>
    intro hn hs
    have hn2 := List.nodup_cons.1 hn
    have ha := hs a List.mem_cons_self
    have h1 := ih (U := U.erase a) hn2.2 (fun x hx => (List.mem_erase_of_ne (fun e => hn2.1 (by rw [← e]; exact hx))).2 (hs x (List.mem_cons_of_mem _ hx)))
    rw [List.length_erase_of_mem ha] at h1
    have h2 := List.length_pos_of_mem ha
    simp only [List.length_cons]
    omega

end

end Go.Proofs.Ytgahdclbaifcbaa

