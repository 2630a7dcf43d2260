/- Clone, Equal of letters, period. least: the least form of a word. -/
import Derived.Test.YtdncjikmknkkpaaDoorApp
namespace Go.Proofs.YtdncjikmknkkpaaDoor
open Go.RowKit

theorem RowU.take {w : World} {a : Option Addr} {n k : Nat} {Z : Nat → Int} (h : RowU w a n Z) (hk : k ≤ n) : RowU w a k Z := by
  obtain ⟨b, o, h1, h2⟩ := h
  exact ⟨b, o, fun hh => h1 (by omega), fun i hi => h2 i (by omega)⟩
theorem RowU.drop {w : World} {b o n k : Nat} {Z : Nat → Int} (h : ∀ i, i < n → w.cell? ⟨b, o + i, none⟩ = some (.int .u64 (Z i))) : RowU w (some ⟨b, o + k, none⟩) (n - k) (fun i => Z (k + i)) :=
  ⟨b, o + k, fun _ => rfl, fun i hi => by rw [Nat.add_assoc]; exact h (k + i) (by omega)⟩

theorem Tryd.elem25 : Tryd.prog.underlying 24 = some (.slice (Tryd.prog.elem 24)) := by kernel_rfl
theorem Tryd.elem25e : Tryd.prog.elem 24 = 51 := by kernel_rfl
theorem size30 (w : World) : (Go.sizeOf (Tryd.prog.elem 24)).run Tryd.prog w = .ok 1 w := by
  obtain ⟨i, hi, _, hs, _⟩ := info_parts Tryd.info51
  rw [Tryd.elem25e]
  simp [Go.sizeOf, typeInfo, hi, hs]

theorem sl_from (b o len cap k : Nat) (hk : k ≤ len) (hc : k < cap) (w : World) : (Instr.slice 24 (.slice (some ⟨b, o, none⟩) len cap) (some (.int .i64 k)) none none).run Tryd.prog w = .ok (.slice (some ⟨b, o + k, none⟩) (len - k) (cap - k)) w := by
  rw [run_slice_l (P := Tryd.prog) (w := w) 24 (some ⟨b, o, none⟩) len cap Tryd.elem25 .i64 k (by omega) (by omega), size30]
  simp [Result.andThen, sliced, addr_none]
  omega

theorem sl_to (b o len cap h : Nat) (hh : h ≤ cap) (w : World) : (Instr.slice 24 (.slice (some ⟨b, o, none⟩) len cap) none (some (.int .i64 h)) none).run Tryd.prog w = .ok (.slice (some ⟨b, o, none⟩) h cap) w := by
  rw [run_slice_h (P := Tryd.prog) (w := w) 24 (some ⟨b, o, none⟩) len cap Tryd.elem25 .i64 h (by omega) (by omega), size30]
  simp [Result.andThen, sliced, addr_none]

theorem sl_to_nil (len cap h : Nat) (hh : h ≤ cap) (w : World) : (Instr.slice 24 (.slice none len cap) none (some (.int .i64 h)) none).run Tryd.prog w = .ok (.slice none h cap) w := by
  rw [run_slice_h (P := Tryd.prog) (w := w) 24 none len cap Tryd.elem25 .i64 h (by omega) (by omega), size30]
  simp [Result.andThen, sliced]

theorem clone_post {w w1 : World} {v' : Value} {n : Nat} {l : List Value} (hown : w1.ownsRow w.heap.size 51 1 v' (0 + n) ([] ++ l)) (hgrow : (w.alloc (.cells #[] 51)).grownBy w1 (Value.ownBlock (.slice (some ⟨w.heap.size, 0, none⟩) 0 0))) :
    Hid (w1.ownsRow w.heap.size 51 1 v' n l ∧ Below w.heap.size w w1) := by
  refine ⟨by rwa [Nat.zero_add, List.nil_append] at hown, ((Below.refl _ _).alloc (Nat.le_refl _) _).grown hgrow (by simp) (fun k hk => ?_)⟩
  simp only [Value.ownBlock, Option.some.injEq] at hk
  omega

set_option maxHeartbeats 400000 in
theorem clone_any (a : Option Addr) (n c : Nat) (Z : Nat → Int) (w : World) (hn : n ≤ 1000) (h : RowU w a n Z) (hnil : a = none → n = 0 ∧ c = 0) :
    Calls Tryd.prog 60 #[.slice a n c] w fun e w' => ∃ v, e = .returned v ∧ w'.ownsRow w.heap.size 51 1 v n (valsU (lstU n Z)) ∧ Below w.heap.size w w' := by
  cases a with
  | none =>
    obtain ⟨rfl, rfl⟩ := hnil rfl
    have hq := fun w' => Go.Lib.run_eql_slice_nil (P := Tryd.prog) w' 24 51 none 0 0 0 0 Tryd.underlying24
    go_enter Tryd.func60, Tryd.ntmps60
    go_wp2
    go_ret
    exact ⟨_, rfl, World.ownsRow_nil _ _ _ _, Below.refl _ _⟩
  | some x =>
    obtain ⟨i0, hi, hz0, hz1, hz2⟩ := info_parts Tryd.info51
    have HI : Hid (Tryd.prog.info? 51 = some i0 ∧ i0.zero = some (.int .u64 0) ∧ i0.size = 1 ∧ i0.bytes = 8) := ⟨hi, hz0, hz1, hz2⟩
    have HR : Hid (RowU w (some x) n Z) := h
    clear hi hz0 hz1 hz2 h hnil
    have HO : Hid ((w.alloc (.cells #[] 51)).ownsRow w.heap.size 51 1 (.slice (some ⟨w.heap.size, 0, none⟩) 0 0) 0 []) := World.ownsRow_made w #[] 0 (Nat.le_refl _) (Nat.zero_le _) rfl
    have HN : Hid (∀ j u, (valsU (lstU n Z))[j]? = some u → (w.alloc (.cells #[] 51)).cell? (x.add j) = some u) := news_of_rowU (HR.out.below ((Below.refl _ _).alloc (Nat.le_refl _) _))
    have hq := fun w' => Go.Lib.run_eql_slice_nil (P := Tryd.prog) w' 24 51 (some x) n c 0 0 Tryd.underlying24
    go_enter Tryd.func60, Tryd.ntmps60
    go_wp2_with (at_builtin; refine wpList_append_own _ rfl _ _ 24 rfl w.heap.size 51 i0 (.int .u64 0) 1 8 Tryd.underlying24 HI.out.1 HI.out.2.1 HI.out.2.2.1 HI.out.2.2.2 rfl (by decide) _ _ _ rfl HO.out x n c (valsU (lstU n Z)) rfl (by rw [valsU_len, lstU_len, Nat.mul_one]) HN.out (valsU_one _) (by unfold maxLen; omega) (by omega) (by simp) ?_; intro v' w1 hown' hgrow _; have HX := clone_post hown' hgrow; clear hown' hgrow)
    go_ret
    refine ⟨_, rfl, ?_, HX.out.2⟩
    exact HX.out.1

/-- Are the two lists of letters the same? -/
def sameU (n m : Nat) (Y Z : Nat → Int) : Bool := decide (n = m ∧ ∀ i, i < n → Y i = Z i)
theorem sameU_no_len {n m : Nat} {Y Z : Nat → Int} (h : n ≠ m) : sameU n m Y Z = false := by
  unfold sameU
  rw [decide_eq_false_iff_not]
  exact fun hh => h hh.1
theorem sameU_no {n m : Nat} {Y Z : Nat → Int} (k : Nat) (hk : k < n) (h : Y k ≠ Z k) : sameU n m Y Z = false := by
  unfold sameU
  rw [decide_eq_false_iff_not]
  exact fun hh => h (hh.2 k hk)
theorem sameU_yes {n m : Nat} {Y Z : Nat → Int} (e : n = m) (h : ∀ i, i < n → Y i = Z i) : sameU n m Y Z = true := by
  unfold sameU
  rw [decide_eq_true_eq]
  exact ⟨e, h⟩
theorem sameU_iff {n m : Nat} {Y Z : Nat → Int} : sameU n m Y Z = true ↔ (n = m ∧ ∀ i, i < n → Y i = Z i) := by unfold sameU; rw [decide_eq_true_eq]

set_option maxHeartbeats 1000000 in
theorem equalU_any {w : World} {a a' : Option Addr} {n n' c c' : Nat} {Y Z : Nat → Int} (hn : n ≤ 1000) (h : RowU w a n Y) (h' : RowU w a' n' Z) :
    Calls Tryd.prog 50 #[.slice a n c, .slice a' n' c'] w fun e w' => e = .returned (.bool (sameU n n' Y Z)) ∧ ∃ q, w' = w.drewN q := by
  by_cases hl : n = n'
  · subst hl
    obtain ⟨b, o, ha, hc⟩ := h
    obtain ⟨b', o', ha', hc'⟩ := h'
    have HC := hid hc
    have HC' := hid hc'
    clear hc hc'
    go_enter Tryd.func50, Tryd.ntmps50
    go_wp2
    go_loopw [13] (fun i wr => ∃ k : Nat, k ≤ n ∧ i = .int .i64 k ∧ Hid (∀ j, j < k → Y j = Z j) ∧ ∃ q, wr = w.drewN q) (fun i _ => n - (intOf i).toNat)
    case atStart => exact ⟨0, Nat.zero_le _, rfl, hid (fun j hj => by omega), 0, rfl⟩
    case round =>
      obtain ⟨k, hk, rfl, H, q, rfl⟩ := hrel
      by_cases hlt : k < n
      · obtain rfl := ha (by omega)
        obtain rfl := ha' (by omega)
        have e1 := HC.out k hlt
        have e2 := HC'.out k hlt
        have hkz : (k : Int) < n := by omega
        by_cases h1 : Y k = Z k
        · have hb : (Y k != Z k) = false := by simp [h1]
          have E := hid h1
          clear h1
          go_wp2
          go_quiet (fail)
          go_wp2
          go_roundw
          case rel => exact ⟨k + 1, by omega, by go_num, hid (snoc_all H.out E.out), _, rfl⟩
          case measure => simp [intOf]; omega
        · have hb : (Y k != Z k) = true := by simp [h1]
          have E : Hid (Y k ≠ Z k) := h1
          clear h1
          go_wp2
          go_quiet (fail)
          go_wp2
          go_ret
          exact ⟨ret_bool (sameU_no k hlt E.out).symm, _, World.drewN_drewN _ _ _⟩
      · go_wp2
        go_ret
        exact ⟨ret_bool (sameU_yes rfl (fun i hi => H.out i (by omega))).symm, q, rfl⟩
  · have hz : ((n : Int) != n') = true := by simp; omega
    have E : Hid (n ≠ n') := hl
    clear hl
    go_enter Tryd.func50, Tryd.ntmps50
    go_wp2
    go_ret
    exact ⟨ret_bool (sameU_no_len E.out).symm, 0, rfl⟩

theorem least_ex {P : Nat → Prop} : ∀ n, P n → ∃ k, P k ∧ ∀ j, j < k → ¬ P j := by
  intro n
  induction n using Nat.strongRecOn with
  | ind n ih =>
    intro hn
    by_cases h : ∃ j, j < n ∧ P j
    · obtain ⟨j, h1, h2⟩ := h
      exact ih j h1 h2
    · exact ⟨n, hn, fun j hj hp => h ⟨j, hj, hp⟩⟩

theorem prd_ex {m : Nat} (hm : 0 < m) (L : Nat → Int) : ∃ p, Prd m L p ∧ p ≤ m := by
  obtain ⟨p, ⟨h1, h2, h3⟩, h4⟩ := least_ex (P := fun c => 0 < c ∧ m % c = 0 ∧ ∀ i, i + c < m → L (i + c) = L i) m ⟨hm, Nat.mod_self m, fun i hi => by omega⟩
  exact ⟨p, ⟨h1, h2, h3, fun c hc hcp hh => h4 c hcp ⟨hc, hh⟩⟩, Nat.le_of_dvd hm (Nat.dvd_of_mod_eq_zero h2)⟩

end Go.Proofs.YtdncjikmknkkpaaDoor

namespace Go.Proofs.YtdncjikmknkkpaaDoor
open Go.RowKit

/-- The Loop, begun at be, is what comes from the place st on. -/
def Rot (f : Nat → Int) (L : Nat → Int) (p st be : Nat) : Prop := be < p ∧ Per st p f ∧ ∀ i, f (st + i) = L ((be + i) % p)

theorem rot_start {s m : Nat} {S L : Nat → Int} {p : Nat} (hm : 0 < m) (h : Prd m L p) (hpm : p ≤ m) : Rot (ltr s m S L) L p s 0 := by
  have hp := (prd_least (s := s) (S := S) hm h).1
  refine ⟨h.pos, hp, fun i => ?_⟩
  have h1 := Per.mul hp (i / p) (s + i % p) (by omega)
  rw [show s + i % p + p * (i / p) = s + i by have := Nat.mod_add_div i p; omega] at h1
  rw [h1, Nat.zero_add]
  exact ltr_loop (Nat.lt_of_lt_of_le (Nat.mod_lt _ h.pos) hpm)

theorem rot_back {f : Nat → Int} {L : Nat → Int} {p st be : Nat} (h : Rot f L p (st + 1) be) (he : f st = L ((be + p - 1) % p)) : Rot f L p st ((be + p - 1) % p) := by
  obtain ⟨h1, h2, h3⟩ := h
  have hp : 0 < p := by omega
  refine ⟨Nat.mod_lt _ hp, fun i hi => ?_, fun i => ?_⟩
  · by_cases e : i = st
    · subst e
      have := h3 (p - 1)
      rw [show i + 1 + (p - 1) = i + p by omega, show be + (p - 1) = be + p - 1 by omega] at this
      rw [this, he]
    · exact h2 i (by omega)
  · rw [Nat.mod_add_mod]
    cases i with
    | zero => simpa using he
    | succ i =>
      have := h3 i
      rw [show st + (i + 1) = st + 1 + i by omega, this, show be + p - 1 + (i + 1) = be + i + p by omega, Nat.add_mod_right]

theorem rot_last {f : Nat → Int} {L : Nat → Int} {p st be : Nat} (h : Rot f L p (st + 1) be) : L ((be + p - 1) % p) = f (st + p) := by
  obtain ⟨h1, _, h3⟩ := h
  have := h3 (p - 1)
  rw [show st + 1 + (p - 1) = st + p by omega, show be + (p - 1) = be + p - 1 by omega] at this
  exact this.symm

/-- A word, made anew: so many letters of f in its Stem, so many behind them in its Loop. -/
def NewW (w0 : World) (f : Nat → Int) (st lp : Nat) (e : Ending) (w : World) : Prop :=
  ∃ a c b d, e = .returned (.agg #[.slice a st c, .slice b lp d]) ∧ (a = none → st = 0 ∧ c = 0) ∧ (b = none → lp = 0 ∧ d = 0) ∧ st ≤ c ∧ lp ≤ d ∧ RowU w a st f ∧ RowU w b lp (fun i => f (st + i)) ∧ Below w0.heap.size w0 w

theorem fz_of {w : World} {x : Nat} {c : Array Value} {t : TypeId} (h : w.heap[x]? = some (.cells c t (0, 0))) (i : Nat) : w.frozen? ⟨x, i, none⟩ = false := by simp [World.frozen?, h]

theorem two_set {w : World} {x : Nat} {u v : Value} {t : TypeId} (h : w.heap[x]? = some (.cells #[u, v] t (0, 0))) (a b : Value) : ((w.setCell ⟨x, 0, none⟩ a).setCell ⟨x, 1, none⟩ b).heap[x]? = some (.cells #[a, b] t (0, 0)) := by
  simp [World.setCell, Array.getElem?_modify, h]

theorem sl_any (x : Addr) (len cap h : Nat) (hh : h ≤ cap) (w : World) : (Instr.slice 24 (.slice (some x) len cap) none (some (.int .i64 h)) none).run Tryd.prog w = .ok (.slice (some x) h cap) w := by
  rw [run_slice_h (P := Tryd.prog) (w := w) 24 (some x) len cap Tryd.elem25 .i64 h (by omega) (by omega), size30]
  have e : x.add 0 = x := by obtain ⟨b, o, s⟩ := x; unfold Addr.add; split <;> simp_all
  simp [Result.andThen, sliced, e]

theorem RowU.but {w w' : World} {a : Option Addr} {n b : Nat} {Z : Nat → Int} (h : RowU w a n Z) (hb : But b w w') (hne : ∀ x, a = some x → x.block ≠ b) : RowU w' a n Z := by
  obtain ⟨c, o, h1, h2⟩ := h
  refine ⟨c, o, h1, fun i hi => hb.cell (hne ⟨c, o, none⟩ (h1 (by omega))) (h2 i hi)⟩

end Go.Proofs.YtdncjikmknkkpaaDoor
