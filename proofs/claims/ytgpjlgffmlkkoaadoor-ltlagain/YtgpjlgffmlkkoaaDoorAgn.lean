/- What is read of a printed text; what is read has words. -/
import Derived.Test.YtgpjlgffmlkkoaaDoorPar
import Derived.Test.YtgpjlgffmlkkoaaDoorBck
import Derived.Test.YtgpjlgffmlkkoaaDoorPrn3
namespace Go.Proofs.YtgpjlgffmlkkoaaDoor

section
variable {N : Nat} {M : Nat → ByteArray}

theorem tx_of_ok {S : ByteArray} {t : Fml} {r : Except (Int × Nat) Fml} (h : TxIs N M S r) (hE : Ev N M 0 .leaf (skp S.data.toList) 0 (.ok (t, []))) : r = .ok t := by
  rcases h with ⟨c, m, h1, _⟩ | ⟨t', h1, h2⟩ | ⟨t', s, h1, h2, _⟩
  · have := Ev.uniq h1 hE
    cases this
  · have := Ev.uniq h1 hE
    injection this with this
    injection this with this _
    rw [h2, this]
  · have := Ev.uniq h1 hE
    injection this with this
    injection this with _ this
    exact absurd this h2

theorem tx_of_err {S : ByteArray} {c : Int} {m : Nat} {r : Except (Int × Nat) Fml} (h : TxIs N M S r) (hE : Ev N M 0 .leaf (skp S.data.toList) 0 (.error (c, m))) : m ≤ S.size ∧ r = .error (c, S.size - m) := by
  rcases h with ⟨c', m', h1, h2, _, h3⟩ | ⟨t', h1, h2⟩ | ⟨t', s, h1, h2, _⟩
  · have := Ev.uniq h1 hE
    injection this with this
    injection this with e1 e2
    subst e1 e2
    exact ⟨h2, h3⟩
  · have := Ev.uniq h1 hE
    cases this
  · have := Ev.uniq h1 hE
    cases this

/-- What Parse makes of a printed text. -/
theorem back_is {t : Fml} (hc : (chk t 1 0).1 = 0) (hn : nmd N M t = true) {r : Except (Int × Nat) Fml} (h : RxIs N M (byt (tx N M t)) r) :
    (300 < (byt (tx N M t)).size ∧ pof (byt (tx N M t)) r = .error (2, 0)) ∨ ((byt (tx N M t)).size ≤ 300 ∧ (pof (byt (tx N M t)) r = .ok t ∨ ∃ p, p < (byt (tx N M t)).size ∧ pof (byt (tx N M t)) r = .error (5, p))) := by
  rcases h with ⟨h1, rfl⟩ | ⟨h1, h2⟩
  · exact Or.inl ⟨h1, rfl⟩
  · refine Or.inr ⟨h1, ?_⟩
    rcases back_ev (N := N) (M := M) (chk_wf t 1 0 hc).1 hn with h3 | ⟨m, hm, h3⟩
    · rw [← data_byt (tx N M t)] at h3
      rw [tx_of_ok h2 h3, pof_ok _ hc]
      exact Or.inl rfl
    · rw [← data_byt (tx N M t)] at h3
      obtain ⟨h4, rfl⟩ := tx_of_err h2 h3
      exact Or.inr ⟨_, by omega, rfl⟩

theorem lf_nmd (w : List UInt8) (t : Fml) (h : lf N M w = some t) : nmd N M t = true := by
  unfold lf at h
  split at h
  · injection h with h; subst h; rw [nmd_eq]; rfl
  · split at h
    · injection h with h; subst h; rw [nmd_eq]; rfl
    · split at h
      · rename_i hb
        injection h with h; subst h
        rw [nmd_eq]
        show wok N M (atV N M (byt w)).toNat = true
        unfold atB at hb
        cases hs : sil (byt w)
        · rw [hs] at hb
          simp only [Bool.false_or, Bool.and_eq_true, decide_eq_true_eq] at hb
          rcases fnd_cases (min N 63) M (byt w) with ⟨h1, _⟩ | ⟨k, h1, h2, h3, h4⟩
          · omega
          · have hv : atV N M (byt w) = k := by
              unfold atV
              rw [hs, if_neg (by decide), if_pos hb.1, h1]
              omega
            have hk : (atV N M (byt w)).toNat = k := by rw [hv]; omega
            have e : byt w = M k := by
              have := eq_of_beq h3
              rw [ByteArray.toList_eq, ByteArray.toList_eq] at this
              exact ByteArray.ext (Array.toList_inj.1 this)
            rw [hk]
            have : nmOk N M k = true := nmOk_mk (by omega) (by rw [← e]; exact hb.1) (fun j hj => by rw [← e, beq_comm']; exact h4 j hj)
            unfold wok
            rw [this]
            simp
        · have hv : atV N M (byt w) = 63 := by unfold atV; rw [if_pos hs]
          rw [hv]
          unfold wok
          rfl
      · cases h

theorem on_nmd (k : Int) (a : Fml) (h : nmd N M a = true) : nmd N M (on k a) = true := by
  rw [nmd_eq]
  exact h
theorem tw_nmd (k : Int) (a b : Fml) (h : nmd N M a = true) (h2 : nmd N M b = true) : nmd N M (tw k a b) = true := by
  rw [nmd_eq, if_neg (show ¬ (tw k a b).cnt = 1 from (by decide : ¬ (2 : Nat) = 1)), if_pos (show (tw k a b).cnt = 2 from rfl)]
  show (nmd N M b && nmd N M a) = true
  rw [h, h2]
  rfl

theorem read_nmd {S : ByteArray} {t : Fml} (h : RxIs N M S (.ok t)) : nmd N M t = true := by
  rcases h with ⟨_, h⟩ | ⟨_, ⟨c, m, _, _, _, h⟩ | ⟨t', ⟨F, h1⟩, h2⟩ | ⟨t', s, _, _, _, h⟩⟩
  · cases h
  · cases h
  · injection h2 with h2
    subst h2
    exact (ps_inv (fun t => nmd N M t = true) lf_nmd on_nmd tw_nmd F 0 _ _ _ _ _ (by omega) h1).2
  · cases h

theorem read_place {S : ByteArray} {c : Int} {p : Nat} (h : RxIs N M S (.error (c, p))) : p ≤ S.size := by
  rcases h with ⟨_, h⟩ | ⟨_, ⟨c', m, _, _, _, h⟩ | ⟨t', _, h2⟩ | ⟨t', s, _, _, _, h⟩⟩
  · injection h with h; injection h with _ h; omega
  · injection h with h; injection h with _ h; omega
  · cases h2
  · injection h with h; injection h with _ h; omega

/-- What comes of a text: a formula that can be printed, or an error that is no 0 and its place. -/
theorem pof_cases {S : ByteArray} {r : Except (Int × Nat) Fml} (h : RxIs N M S r) : (∃ t, pof S r = .ok t ∧ (chk t 1 0).1 = 0 ∧ nmd N M t = true) ∨ ∃ c p, pof S r = .error (c, p) ∧ c ≠ 0 ∧ p ≤ S.size := by
  cases r with
  | ok t =>
    by_cases hc : (chk t 1 0).1 = 0
    · exact Or.inl ⟨t, pof_ok S hc, hc, read_nmd h⟩
    · exact Or.inr ⟨_, _, pof_bad S hc, hc, Nat.le_refl _⟩
  | error q =>
    have := tx_code (c := q.1) (p := q.2) h
    exact Or.inr ⟨q.1, q.2, rfl, by omega, read_place h⟩

theorem prv_ok {t : Fml} (hc : (chk t 1 0).1 = 0) (hn : nmd N M t = true) : PrV N M t = (byt (tx N M t), 0) := by
  unfold PrV
  rw [if_neg (by simpa using hc), if_pos hn]
  rfl

theorem prv_cases (N : Nat) (M : Nat → ByteArray) (t : Fml) : (PrV N M t = (byt (tx N M t), 0) ∧ (chk t 1 0).1 = 0 ∧ nmd N M t = true) ∨ ∃ c, c ≠ 0 ∧ PrV N M t = (⟨#[]⟩, c) := by
  by_cases hc : (chk t 1 0).1 = 0
  · by_cases hn : nmd N M t = true
    · exact Or.inl ⟨prv_ok hc hn, hc, hn⟩
    · refine Or.inr ⟨4, by decide, ?_⟩
      unfold PrV
      rw [if_neg (by simpa using hc), if_neg hn]
  · refine Or.inr ⟨_, hc, ?_⟩
    unfold PrV
    rw [if_pos hc]

end

/-- 'X a & silent'. -/
def t0 : Fml := tw 5 (on 7 (nd 3 0)) (nd 3 63)
def m0 : Nat → ByteArray := fun _ => ⟨#[97]⟩

theorem prv_t0 : PrV 1 m0 t0 = (⟨#[88, 32, 97, 32, 38, 32, 115, 105, 108, 101, 110, 116]⟩, 0) := by
  have hc : (chk t0 1 0).1 = 0 := by decide +kernel
  have hn : nmd 1 m0 t0 = true := by decide +kernel
  rw [prv_ok hc hn]
  have : tx 1 m0 t0 = [88, 32, 97, 32, 38, 32, 115, 105, 108, 101, 110, 116] := by decide +kernel
  rw [this]
  rfl

end Go.Proofs.YtgpjlgffmlkkoaaDoor
