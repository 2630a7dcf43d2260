/- Asking from behind, twice: what comes of it. -/
import Derived.Test.YtinacgkiigbmjaaDoorWrd
namespace Go.Proofs.YtinacgkiigbmjaaDoor
open Go.RowKit

def bkF (g : Nat → Bool → Bool) (l : Bool) : Nat → Nat → Bool
  | _, 0 => l
  | p, d + 1 => g p (bkF g l (p + 1) d)

/-- What is answered at p, if behind the last of n places stands l. -/
def bk (g : Nat → Bool → Bool) (n : Nat) (l : Bool) (p : Nat) : Bool := bkF g l p (n - p)

theorem bk_end (g : Nat → Bool → Bool) (n : Nat) (l : Bool) : bk g n l n = l := by unfold bk; rw [Nat.sub_self]; rfl
theorem bk_step (g : Nat → Bool → Bool) {n : Nat} (l : Bool) {p : Nat} (h : p < n) : bk g n l p = g p (bk g n l (p + 1)) := by
  unfold bk
  rw [show n - p = (n - (p + 1)) + 1 by omega]
  rfl

def gU (F G : Nat → Bool) (p : Nat) (v : Bool) : Bool := G p || (F p && v)
def gR (F G : Nat → Bool) (p : Nat) (v : Bool) : Bool := G p && (F p || v)

theorem bkF_unt (F G : Nat → Bool) : ∀ d p, bkF (gU F G) false p d = unt F G d p
  | 0, _ => rfl
  | d + 1, p => by
    show gU F G p (bkF (gU F G) false (p + 1) d) = _
    rw [bkF_unt F G d (p + 1)]
    rfl

theorem bkF_step {g : Nat → Bool → Bool} {U : Nat → Bool} (h : ∀ p, U p = g p (U (p + 1))) : ∀ d p, bkF g (U (p + d)) p d = U p
  | 0, _ => rfl
  | d + 1, p => by
    show g p (bkF g (U (p + (d + 1))) (p + 1) d) = _
    rw [show p + (d + 1) = p + 1 + d by omega, bkF_step h d (p + 1), ← h p]

theorem unt_loop {s m : Nat} (hm : 0 < m) {f g : Nat → Bool} (hg : Per s m g) {i : Nat} (hi : s ≤ i) : unt f g (s + m) i = unt f g m i := by
  rw [Bool.eq_iff_iff, unt_all hm hg, unt_iff]
  constructor
  · rintro ⟨j, h1, h2, h3⟩
    induction j using Nat.strongRecOn with
    | ind j ih =>
      by_cases h : j < i + m
      · exact ⟨j, h1, h, h2, h3⟩
      · have e := hg (j - m) (by omega)
        rw [show j - m + m = j by omega] at e
        exact ih (j - m) (by omega) (by omega) (by rw [← e]; exact h2) (fun k a b => h3 k a (by omega))
  · rintro ⟨j, h1, _, h3, h4⟩
    exact ⟨j, h1, h3, h4⟩

theorem bk_until {s m : Nat} (hm : 0 < m) {F G : Nat → Bool} (hF : Per s m F) (hG : Per s m G) {p : Nat} (hp : p < s + m) : bk (gU F G) (s + m) (bk (gU F G) (s + m) false s) p = unt F G (s + m) p := by
  have e1 : bk (gU F G) (s + m) false s = unt F G (s + m) s := by
    rw [unt_loop hm hG (Nat.le_refl _)]
    unfold bk
    rw [show s + m - s = m by omega, bkF_unt]
  have e2 : unt F G (s + m) (s + m) = unt F G (s + m) s := unt_per hm hF hG s (Nat.le_refl _)
  rw [e1, ← e2]
  have := bkF_step (g := gU F G) (U := unt F G (s + m)) (fun p => unt_step hm hG p) (s + m - p) p
  rw [show p + (s + m - p) = s + m by omega] at this
  exact this

theorem gR_not (F G : Nat → Bool) (p : Nat) (v : Bool) : gR F G p v = !gU (fun k => !F k) (fun k => !G k) p (!v) := by
  show (G p && (F p || v)) = !((!G p) || ((!F p) && !v))
  cases G p <;> cases F p <;> cases v <;> rfl

theorem bkF_not (F G : Nat → Bool) (l : Bool) : ∀ d p, bkF (gR F G) l p d = !bkF (gU (fun k => !F k) (fun k => !G k)) (!l) p d
  | 0, _ => by show l = !!l; rw [Bool.not_not]
  | d + 1, p => by
    show gR F G p (bkF (gR F G) l (p + 1) d) = !gU (fun k => !F k) (fun k => !G k) p (bkF (gU (fun k => !F k) (fun k => !G k)) (!l) (p + 1) d)
    rw [bkF_not F G l d (p + 1), gR_not, Bool.not_not]

theorem bk_release {s m : Nat} (hm : 0 < m) {F G : Nat → Bool} (hF : Per s m F) (hG : Per s m G) {p : Nat} (hp : p < s + m) : bk (gR F G) (s + m) (bk (gR F G) (s + m) true s) p = rls F G (s + m) p := by
  have h := bk_until hm (per_not hF) (per_not hG) hp
  unfold rls
  rw [← h]
  unfold bk
  rw [bkF_not, bkF_not, Bool.not_not]
  rfl

/-- The next place of a word that goes round. -/
theorem hb_next {s m : Nat} {f : Nat → Bool} (hf : Per s m f) {p : Nat} (hp : p < s + m) : f (if p + 1 < s + m then p + 1 else s) = f (p + 1) := by
  by_cases h : p + 1 < s + m
  · rw [if_pos h]
  · rw [if_neg h, show p + 1 = s + m by omega]
    exact (hf s (Nat.le_refl _)).symm

end Go.Proofs.YtinacgkiigbmjaaDoor
