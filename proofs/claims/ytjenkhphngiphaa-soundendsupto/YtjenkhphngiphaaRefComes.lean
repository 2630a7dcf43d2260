/- watchref.Comes, by its contract. -/
import Derived.Test.YtjenkhphngiphaaReach
import Derived.Test.YtjenkhphngiphaaMore
namespace Go.Proofs.Ytjenkhphngiphaa
open Go.RowKit

/-- How many of the first n are not true. -/
def cntR (O : Nat → Bool) : Nat → Nat
  | 0 => 0
  | n + 1 => cntR O n + if O n = true then 0 else 1
def mark (O : Nat → Bool) (x : Nat) : Nat → Bool := fun y => if y = x then true else O y

theorem mark_at (O : Nat → Bool) (x : Nat) : mark O x x = true := by simp [mark]
theorem mark_up {O : Nat → Bool} {x y : Nat} (h : O y = true) : mark O x y = true := by unfold mark; split <;> first | rfl | exact h
theorem cntB_congr {O O' : Nat → Bool} {n : Nat} (h : ∀ x, x < n → O x = O' x) : cntR O n = cntR O' n := by
  induction n with
  | zero => rfl
  | succ n ih =>
    simp only [cntR]
    rw [ih (fun x hx => h x (by omega)), h n (by omega)]
theorem cntB_mark_le (O : Nat → Bool) (x : Nat) : ∀ n, cntR (mark O x) n ≤ cntR O n
  | 0 => Nat.le_refl _
  | n + 1 => by
    have := cntB_mark_le O x n
    simp only [cntR]
    by_cases e : O n = true
    · rw [if_pos e, if_pos (mark_up e)]; omega
    · rw [if_neg e]; split <;> omega
theorem cntB_mark_lt {O : Nat → Bool} {x : Nat} (hx : O x = false) : ∀ n, x < n → cntR (mark O x) n < cntR O n
  | n + 1, h => by
    simp only [cntR]
    by_cases e : n = x
    · subst e
      have := cntB_mark_le O n n
      rw [if_pos (mark_at O n), if_neg (by rw [hx]; exact Bool.false_ne_true)]
      omega
    · have := cntB_mark_lt hx n (by omega)
      have e2 : mark O x n = O n := by simp [mark, e]
      rw [e2]
      omega

def isT : Value → Bool
  | .bool b => b
  | _ => false
def isTO : Option Value → Bool
  | some v => isT v
  | none => false
/-- How many of the block's first n cells are not true. -/
def cntW (b : Nat) (wr : World) : Nat → Nat
  | 0 => 0
  | n + 1 => cntW b wr n + if isTO (wr.cell? ⟨b, n, none⟩) = true then 0 else 1
def msr (b G : Nat) (mo : Value) (wr : World) : Nat := if isT mo = true then 1 + cntW b wr G else 0

structure Cw (w wr : World) (G : Nat) (O : Nat → Bool) : Prop where
  below : Below w.heap.size w wr
  row : wr.rowIs w.heap.size 4 G (fun x => .bool (O x))

theorem Cw.mark {w wr : World} {G : Nat} {O : Nat → Bool} (h : Cw w wr G O) (x : Nat) : Cw w (wr.setCell ⟨w.heap.size, x, none⟩ (.bool true)) G (mark O x) :=
  ⟨h.below.setCell (Nat.le_refl _) _, (h.row.set x _).congr (fun y _ => by unfold Ytjenkhphngiphaa.mark; split <;> rfl)⟩
theorem Cw.congr {w wr : World} {G : Nat} {O O' : Nat → Bool} (h : Cw w wr G O) (e : ∀ x, x < G → O x = O' x) : Cw w wr G O' := ⟨h.below, h.row.congr (fun x hx => by rw [e x hx])⟩

theorem Cw.cnt {w wr : World} {G : Nat} {O : Nat → Bool} (h : Cw w wr G O) : cntW w.heap.size wr G = cntR O G := by
  have : ∀ n, n ≤ G → cntW w.heap.size wr n = cntR O n := by
    intro n
    induction n with
    | zero => intro _; rfl
    | succ n ih =>
      intro hn
      simp only [cntW, cntR]
      rw [ih (by omega), h.row.cell (i := n) (by omega)]
      cases O n <;> rfl
  exact this G (Nat.le_refl _)
theorem Cw.msrT {w wr : World} {G : Nat} {O : Nat → Bool} (h : Cw w wr G O) : msr w.heap.size G (.bool true) wr = 1 + cntR O G := by
  unfold msr
  rw [h.cnt, if_pos (by rfl)]
theorem msrF (b G : Nat) (wr : World) : msr b G (.bool false) wr = 0 := by
  unfold msr
  rw [if_neg (by decide)]

/-- Nothing but what comes, and the sources. -/
def CmR (G : Nat) (L : Nat → Nat) (Z : Nat → Nat → Int) (n : Nat) (Y : Nat → Int) (O : Nat → Bool) : Prop := (∀ x, x < G → Src n Y x → O x = true) ∧ (∀ x, x < G → O x = true → Comes G L Z n Y x)
/-- Closed at the first k nodes. -/
def Clo (L : Nat → Nat) (Z : Nat → Nat → Int) (O : Nat → Bool) (k : Nat) : Prop := ∀ a, a < k → O a = true → ∀ i, i < L a → O (Z a i).toNat = true
def Stc (G : Nat) (L : Nat → Nat) (Z : Nat → Nat → Int) (O O' : Nat → Bool) (m : Bool) (k : Nat) : Prop := (m = false ∧ (∀ x, x < G → O' x = O x) ∧ Clo L Z O k) ∨ (m = true ∧ cntR O' G < cntR O G)
def Stc2 (G : Nat) (L : Nat → Nat) (Z : Nat → Nat → Int) (O O' : Nat → Bool) (m : Bool) (k j : Nat) : Prop := (m = false ∧ (∀ x, x < G → O' x = O x) ∧ Clo L Z O k ∧ ∀ i, i < j → O (Z k i).toNat = true) ∨ (m = true ∧ cntR O' G < cntR O G)

section
variable {G : Nat} {L : Nat → Nat} {Z : Nat → Nat → Int} {n : Nat} {Y : Nat → Int} {O O' : Nat → Bool}
theorem comes_step {x y : Nat} (h : Comes G L Z n Y x) (e : Ed G L Z x y) : Comes G L Z n Y y := by
  obtain ⟨k, hk⟩ := h
  exact ⟨k + 1, x, hk, e⟩
theorem CmR.mark (h : CmR G L Z n Y O) {k t : Nat} (hk : k < G) (hO : O k = true) (e : Ed G L Z k t) : CmR G L Z n Y (mark O t) :=
  ⟨fun x hx hs => mark_up (h.1 x hx hs), fun x hx hm => by
    by_cases e2 : x = t
    · subst e2; exact comes_step (h.2 k hk hO) e
    · exact h.2 x hx (by unfold Ytjenkhphngiphaa.mark at hm; rwa [if_neg e2] at hm)⟩

theorem CmR.done (hZ : ∀ x, x < G → ∀ i, i < L x → 0 ≤ Z x i ∧ Z x i < G) (hY : ∀ i, i < n → 0 ≤ Y i ∧ Y i < G) (h : CmR G L Z n Y O) (hc : Clo L Z O G) (x : Nat) (hx : x < G) : O x = true ↔ Comes G L Z n Y x := by
  refine ⟨h.2 x hx, ?_⟩
  rintro ⟨k, hk⟩
  have : ∀ k x, Wk (Src n Y) (Ed G L Z) k x → x < G ∧ O x = true := by
    intro k
    induction k with
    | zero =>
      intro x hs
      obtain ⟨i, hi, e⟩ := has_iff.1 (show has n Y x = true from hs)
      have := hY i hi
      have hxG : x < G := by omega
      exact ⟨hxG, h.1 x hxG hs⟩
    | succ k ih =>
      rintro x ⟨y, hy, hyG, he⟩
      obtain ⟨i, hi, e⟩ := has_iff.1 he
      have h1 := hZ y hyG i hi
      have h2 := hc y hyG (ih y hy).2 i hi
      rw [e] at h2 h1
      exact ⟨by omega, by simpa using h2⟩
  exact (this k x hk).2

theorem Stc.start : Stc G L Z O O false 0 := Or.inl ⟨rfl, fun _ _ => rfl, fun a ha => by omega⟩
theorem Stc.enter {m : Bool} {k : Nat} (h : Stc G L Z O O' m k) : Stc2 G L Z O O' m k 0 := by
  rcases h with ⟨a, b, c⟩ | h
  · exact Or.inl ⟨a, b, c, fun i hi => by omega⟩
  · exact Or.inr h
/-- Leaving at the list's end. -/
theorem Stc2.leave {m : Bool} {k : Nat} (h : Stc2 G L Z O O' m k (L k)) : Stc G L Z O O' m (k + 1) := by
  rcases h with ⟨a, b, c, d⟩ | h
  · refine Or.inl ⟨a, b, fun x hx hO i hi => ?_⟩
    by_cases e : x = k
    · subst e; exact d i hi
    · exact c x (by omega) hO i hi
  · exact Or.inr h
/-- Leaving where the node is not true. -/
theorem Stc2.leave' {m : Bool} {k j : Nat} (hk : k < G) (h : Stc2 G L Z O O' m k j) (h0 : O' k = false) : Stc G L Z O O' m (k + 1) := by
  rcases h with ⟨a, b, c, d⟩ | h
  · refine Or.inl ⟨a, b, fun x hx hO i hi => ?_⟩
    by_cases e : x = k
    · subst e; rw [← b x hk, h0] at hO; cases hO
    · exact c x (by omega) hO i hi
  · exact Or.inr h
theorem Stc2.grow {k j t : Nat} (h : Stc2 G L Z O O' true k j) : Stc2 G L Z O (mark O' t) true k (j + 1) := by
  rcases h with ⟨a, _⟩ | ⟨_, h⟩
  · cases a
  · exact Or.inr ⟨rfl, by have := cntB_mark_le O' t G; omega⟩
theorem Stc2.new {k j t : Nat} (ht : t < G) (h : Stc2 G L Z O O' false k j) (h0 : O' t = false) : Stc2 G L Z O (mark O' t) true k (j + 1) := by
  rcases h with ⟨_, b, _⟩ | ⟨a, _⟩
  · refine Or.inr ⟨rfl, ?_⟩
    rw [← cntB_congr b]
    exact cntB_mark_lt h0 G ht
  · cases a
theorem Stc2.old {k j t : Nat} (ht : t < G) (hZ : Z k j = t) (h : Stc2 G L Z O O' false k j) (h1 : O' t = true) : Stc2 G L Z O (mark O' t) false k (j + 1) := by
  rcases h with ⟨a, b, c, d⟩ | ⟨a, _⟩
  · refine Or.inl ⟨a, fun x hx => ?_, c, fun i hi => ?_⟩
    · rw [← b x hx]
      unfold mark
      split
      · next e => subst e; exact h1.symm
      · rfl
    · by_cases e : i = j
      · subst e; rw [hZ, ← b _ (by simpa using ht)]; simpa using h1
      · exact d i (by omega)
  · cases a
end

def SrcTo (G : Nat) (Y : Nat → Int) (k : Nat) (O : Nat → Bool) : Prop := ∀ x, x < G → (O x = true ↔ ∃ i, i < k ∧ Y i = (x : Int))

theorem SrcTo.next {G : Nat} {Y : Nat → Int} {k : Nat} {O : Nat → Bool} {t : Nat} (h : SrcTo G Y k O) (hy : Y k = t) : SrcTo G Y (k + 1) (mark O t) := fun x hx => by
  unfold mark
  by_cases e : x = t
  · subst e
    rw [if_pos rfl]
    exact ⟨fun _ => ⟨k, by omega, hy⟩, fun _ => rfl⟩
  · rw [if_neg e, h x hx]
    constructor
    · rintro ⟨i, hi, ei⟩; exact ⟨i, by omega, ei⟩
    · rintro ⟨i, hi, ei⟩
      refine ⟨i, ?_, ei⟩
      by_cases e2 : i = k
      · subst e2; rw [hy] at ei; omega
      · omega
theorem SrcTo.cm {G : Nat} {L : Nat → Nat} {Z : Nat → Nat → Int} {Y : Nat → Int} {n : Nat} {O : Nat → Bool} (h : SrcTo G Y n O) : CmR G L Z n Y O :=
  ⟨fun x hx hs => (h x hx).2 (has_iff.1 hs), fun x hx ho => ⟨0, has_iff.2 ((h x hx).1 ho)⟩⟩

def ComesIs (G : Nat) (L : Nat → Nat) (Z : Nat → Nat → Int) (n : Nat) (Y : Nat → Int) (w w' : World) (e : Ending) : Prop :=
  ∃ R : Nat → Bool, e = .returned (.slice (some ⟨w.heap.size, 0, none⟩) G G) ∧ Below w.heap.size w w' ∧ w'.rowIs w.heap.size 4 G (fun x => .bool (R x)) ∧ ∀ x, x < G → (R x = true ↔ Comes G L Z n Y x)

set_option maxHeartbeats 1000000 in
theorem refComes_any (ga : Option Addr) (G gc : Nat) (L : Nat → Nat) (Z : Nat → Nat → Int) (a : Option Addr) (n c : Nat) (Y : Nat → Int) (w : World) (hL : ∀ r, r < G → L r ≤ 140737488355328) (hn : n ≤ 140737488355328) (h : Gr w ga G L Z) (hrow : Row w a n Y) (h0 : errF G L Z n Y = 0) :
    Calls Try.prog 31 #[.slice ga G gc, .slice a n c] w fun e w' => ComesIs G L Z n Y w w' e := by
  obtain ⟨hg, hin⟩ := errF_zero h0
  obtain ⟨hG, hZ⟩ := errG_zero hg
  have HL : Hid (∀ r, r < G → L r ≤ 140737488355328) := hL
  have HZ : Hid (∀ x, x < G → ∀ i, i < L x → 0 ≤ Z x i ∧ Z x i < G) := hZ
  have HY : Hid (∀ i, i < n → 0 ≤ Y i ∧ Y i < G) := hin
  have HG : Hid (Gr w ga G L Z) := h
  have HA : Hid (Row w a n Y) := hrow
  clear h hrow hL hg hin h0 hZ
  have hmk := run_make_row' (P := Try.prog) 59 4 (.bool false) 1 Try.underlying59 Try.info4 rfl .i64 .i64 G (by omega) (by omega)
  go_enter Try.func31, Try.ntmps31
  go_wp2
  clear hmk
  go_loopw [6] (fun i wr => ∃ k : Nat, k ≤ n ∧ i = .int .i64 k ∧ Hid (∃ O, Cw w wr G O ∧ SrcTo G Y k O)) (fun i _ => n - (intOf i).toNat)
  case atStart => exact ⟨0, Nat.zero_le _, rfl, hid ⟨fun _ => false, ⟨(Below.refl _ _).alloc (Nat.le_refl _) _, World.rowIs_made w (.bool false) G 4⟩, fun x hx => ⟨fun e => (by cases e), fun ⟨i, hi, _⟩ => by omega⟩⟩⟩
  case round =>
    obtain ⟨k, hk, rfl, HO⟩ := hrel
    by_cases hlt : k < n
    · have hkz : (k : Int) < n := by omega
      obtain ⟨O, hC, hS⟩ := HO.out
      obtain ⟨rb, ro, hra, hrc⟩ := HA.out
      obtain rfl := hra (by omega)
      obtain ⟨t, ht⟩ : ∃ t : Nat, Y k = t := ⟨(Y k).toNat, by have := HY.out k hlt; omega⟩
      have htG : t < G := by have := HY.out k hlt; omega
      have htz : (t : Int) < G := by omega
      have hcj : wr.cell? ⟨rb, ro + k, none⟩ = some (.int .i64 t) := by
        rw [hC.below.cell (p := ⟨rb, ro + k, none⟩) (World.block_lt_of_cell? _ _ (hrc k hlt)), hrc k hlt, ht]
      have hct := hC.row.cell htG
      have hcz := hC.row.frozen t
      have HX : Hid (Cw w wr G O ∧ SrcTo G Y k O ∧ Y k = t) := ⟨hC, hS, ht⟩
      clear hrc hra ht hC hS HO
      go_wp2
      go_roundw
      case rel => exact ⟨k + 1, by omega, by go_num, hid ⟨_, HX.out.1.mark t, HX.out.2.1.next HX.out.2.2⟩⟩
      case measure => simp [intOf]; omega
    · obtain ⟨O, hC, hS⟩ := HO.out
      have hkn : k = n := by omega
      subst hkn
      have HC : Hid (Cw w wr G O ∧ CmR G L Z k Y O) := ⟨hC, hS.cm⟩
      clear hC hS HO
      go_wp2
      go_loopw [7] (fun mo wr => Hid (∃ (m : Bool) (O : Nat → Bool), mo = .bool m ∧ Cw w wr G O ∧ CmR G L Z k Y O ∧ (m = false → Clo L Z O G))) (fun mo wr => msr w.heap.size G mo wr)
      case atStart => exact hid ⟨true, O, rfl, HC.out.1, HC.out.2, fun h => by cases h⟩
      case round =>
        obtain ⟨m, O1, rfl, hC1, hM1, hcl⟩ := hrel.out
        clear hrel HC
        cases m
        · have HE : Hid (Cw w wr G O1 ∧ CmR G L Z k Y O1 ∧ Clo L Z O1 G) := ⟨hC1, hM1, hcl rfl⟩
          clear hC1 hM1 hcl
          go_wp2
          go_ret
          exact ⟨O1, rfl, HE.out.1.below, HE.out.1.row, HE.out.2.1.done HZ.out HY.out HE.out.2.2⟩
        · have HE : Hid (Cw w wr G O1 ∧ CmR G L Z k Y O1 ∧ msr w.heap.size G (.bool true) wr = 1 + cntR O1 G) := ⟨hC1, hM1, hC1.msrT⟩
          clear hC1 hM1 hcl
          go_wp2
          go_loopw [7, 8] (fun mo i wr2 => ∃ k2 : Nat, k2 ≤ G ∧ i = .int .i64 k2 ∧ Hid (∃ (m : Bool) (O2 : Nat → Bool), mo = .bool m ∧ Cw w wr2 G O2 ∧ CmR G L Z k Y O2 ∧ Stc G L Z O1 O2 m k2)) (fun _ i _ => G - (intOf i).toNat)
          case atStart => exact ⟨0, Nat.zero_le _, rfl, hid ⟨false, O1, rfl, HE.out.1, HE.out.2.1, Stc.start⟩⟩
          case round =>
            obtain ⟨k2, hk2, rfl, HX⟩ := hrel
            by_cases hlt2 : k2 < G
            · have hkz2 : (k2 : Int) < G := by omega
              obtain ⟨gb, go, hga, hgc⟩ := HG.out
              obtain rfl := hga (by omega)
              obtain ⟨a4, c4, hg0, hr0⟩ := hgc k2 hlt2
              have HG0 : Hid (w.cell? ⟨gb, go + k2, none⟩ = some (.slice a4 (L k2) c4)) := hg0
              have HR4 : Hid (Row w a4 (L k2) (Z k2)) := hr0
              have hLk := HL.out k2 hlt2
              clear hg0 hr0 hgc hga
              obtain ⟨m, O2, rfl, hC2, hM2, hT2⟩ := HX.out
              have HX2 : Hid (Cw w wr G O2 ∧ CmR G L Z k Y O2 ∧ Stc G L Z O1 O2 m k2) := ⟨hC2, hM2, hT2⟩
              clear hC2 hM2 hT2 HX
              go_wp2
              go_loopw [7, 9] (fun mo i wr3 => ∃ j : Nat, j ≤ L k2 ∧ i = .int .i64 j ∧ Hid (∃ (m : Bool) (O3 : Nat → Bool), mo = .bool m ∧ Cw w wr3 G O3 ∧ CmR G L Z k Y O3 ∧ Stc2 G L Z O1 O3 m k2 j)) (fun _ i _ => L k2 - (intOf i).toNat)
              case atStart => exact ⟨0, Nat.zero_le _, rfl, hid ⟨m, O2, rfl, HX2.out.1, HX2.out.2.1, HX2.out.2.2.enter⟩⟩
              case round =>
                obtain ⟨j, hj, rfl, HX3⟩ := hrel
                obtain ⟨m3, O3, rfl, hC3, hM3, hT3⟩ := HX3.out
                clear HX2 HX3
                have hgk : wr.cell? ⟨gb, go + k2, none⟩ = some (.slice a4 (L k2) c4) := by
                  rw [hC3.below.cell (p := ⟨gb, go + k2, none⟩) (World.block_lt_of_cell? _ _ HG0.out)]; exact HG0.out
                have hok := hC3.row.cell hlt2
                cases hO : O3 k2
                · have HF : Hid (Cw w wr G O3 ∧ CmR G L Z k Y O3 ∧ Stc G L Z O1 O3 m3 (k2 + 1)) := ⟨hC3, hM3, hT3.leave' hlt2 hO⟩
                  rw [hO] at hok
                  clear hC3 hM3 hT3 hO
                  go_wp2
                  go_roundw
                  case rel => exact ⟨k2 + 1, by omega, by go_num, hid ⟨m3, O3, rfl, HF.out⟩⟩
                  case measure => simp [intOf]; omega
                · rw [hO] at hok
                  by_cases hjl : j < L k2
                  · have hjz : (j : Int) < (L k2 : Int) := by omega
                    obtain ⟨b', o', ha', hc'⟩ := HR4.out
                    obtain rfl := ha' (by omega)
                    obtain ⟨t, ht⟩ : ∃ t : Nat, Z k2 j = t := ⟨(Z k2 j).toNat, by have := HZ.out k2 hlt2 j hjl; omega⟩
                    have htG : t < G := by have := HZ.out k2 hlt2 j hjl; omega
                    have htz : (t : Int) < G := by omega
                    have hcell : wr.cell? ⟨b', o' + j, none⟩ = some (.int .i64 t) := by
                      rw [hC3.below.cell (p := ⟨b', o' + j, none⟩) (World.block_lt_of_cell? _ _ (hc' j hjl)), hc' j hjl, ht]
                    have hct := hC3.row.cell htG
                    have hcz := hC3.row.frozen t
                    have hM4 := hM3.mark (t := t) hlt2 hO ⟨hlt2, has_iff.2 ⟨j, hjl, ht⟩⟩
                    have HC4 : Hid (Cw w (wr.setCell ⟨w.heap.size, t, none⟩ (.bool true)) G (mark O3 t) ∧ CmR G L Z k Y (mark O3 t)) := ⟨hC3.mark t, hM4⟩
                    cases m3
                    · cases ho : O3 t
                      · have HT4 : Hid (Stc2 G L Z O1 (mark O3 t) true k2 (j + 1)) := hT3.new htG ho
                        rw [ho] at hct
                        clear hC3 hM3 hT3 hO hM4 hc' ha' ht ho
                        go_wp2
                        go_roundw
                        case rel => exact ⟨j + 1, by omega, by go_num, hid ⟨true, _, rfl, HC4.out.1, HC4.out.2, HT4.out⟩⟩
                        case measure => simp [intOf]; omega
                      · have HT4 : Hid (Stc2 G L Z O1 (mark O3 t) false k2 (j + 1)) := hT3.old htG ht ho
                        rw [ho] at hct
                        clear hC3 hM3 hT3 hO hM4 hc' ha' ht ho
                        go_wp2
                        go_roundw
                        case rel => exact ⟨j + 1, by omega, by go_num, hid ⟨false, _, rfl, HC4.out.1, HC4.out.2, HT4.out⟩⟩
                        case measure => simp [intOf]; omega
                    · have HT4 : Hid (Stc2 G L Z O1 (mark O3 t) true k2 (j + 1)) := hT3.grow
                      clear hC3 hM3 hT3 hO hM4 hc' ha' ht
                      go_wp2
                      go_roundw
                      case rel => exact ⟨j + 1, by omega, by go_num, hid ⟨true, _, rfl, HC4.out.1, HC4.out.2, HT4.out⟩⟩
                      case measure => simp [intOf]; omega
                  · have hjL : j = L k2 := by omega
                    have HF : Hid (Cw w wr G O3 ∧ CmR G L Z k Y O3 ∧ Stc G L Z O1 O3 m3 (k2 + 1)) := ⟨hC3, hM3, by rw [hjL] at hT3; exact hT3.leave⟩
                    clear hC3 hM3 hT3 hO hjL
                    have hjz : ¬ (j : Int) < (L k2 : Int) := by omega
                    go_wp2
                    go_roundw
                    case rel => exact ⟨k2 + 1, by omega, by go_num, hid ⟨m3, O3, rfl, HF.out⟩⟩
                    case measure => simp [intOf]; omega
            · have hk2G : k2 = G := by omega
              subst hk2G
              obtain ⟨m, O2, rfl, hC2, hM2, hT2⟩ := HX.out
              have HF : Hid (Cw w wr k2 O2 ∧ CmR k2 L Z k Y O2 ∧ (m = false → Clo L Z O2 k2) ∧ msr w.heap.size k2 (.bool m) wr < 1 + cntR O1 k2) := by
                refine ⟨hC2, hM2, ?_, ?_⟩
                · rintro rfl
                  rcases hT2 with ⟨_, e, h⟩ | ⟨h, _⟩
                  · intro x hx ho i hi
                    have h1 := HZ.out x hx i hi
                    rw [e _ (by omega)]
                    exact h x hx (by rw [← e x hx]; exact ho) i hi
                  · cases h
                · cases m
                  · rw [msrF]; omega
                  · rw [hC2.msrT]
                    rcases hT2 with ⟨h, _⟩ | ⟨_, h⟩
                    · cases h
                    · omega
              clear hC2 hM2 hT2 HX
              go_wp2
              go_roundw
              case rel => exact hid ⟨m, O2, rfl, HF.out.1, HF.out.2.1, HF.out.2.2.1⟩
              case measure => rw [HE.out.2.2]; exact HF.out.2.2.2

end Go.Proofs.Ytjenkhphngiphaa
