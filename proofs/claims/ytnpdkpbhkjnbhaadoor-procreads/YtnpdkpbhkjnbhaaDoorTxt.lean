/- Texts: lines, words, what is read of them, and what is printed. -/
import Derived.Test.YtnpdkpbhkjnbhaaDoorPrint
import Derived.Lib.Split
namespace Go.Proofs.YtnpdkpbhkjnbhaaDoor
open Go.RowKit

/-- s broken at its first byte c. -/
def brk (c : UInt8) : List UInt8 → Option (List UInt8 × List UInt8)
  | [] => none
  | b :: l => if b = c then some ([], l) else (brk c l).map fun p => (b :: p.1, p.2)

theorem brk_some {c : UInt8} : ∀ {s x y}, brk c s = some (x, y) → s = x ++ c :: y ∧ c ∉ x
  | [], x, y, h => by cases h
  | b :: l, x, y, h => by
    by_cases e : b = c
    · rw [brk, if_pos e] at h
      cases h
      exact ⟨by rw [e]; rfl, by simp⟩
    · rw [brk, if_neg e] at h
      obtain ⟨⟨p, q⟩, h1, h2⟩ := Option.map_eq_some_iff.1 h
      cases h2
      obtain ⟨h3, h4⟩ := brk_some h1
      exact ⟨by rw [h3]; rfl, by simp only [List.mem_cons, not_or]; exact ⟨fun hh => e hh.symm, h4⟩⟩

theorem brk_none {c : UInt8} : ∀ {s}, brk c s = none ↔ c ∉ s
  | [] => by simp [brk]
  | b :: l => by
    by_cases e : b = c
    · rw [brk, if_pos e]
      simp [e]
    · rw [brk, if_neg e, Option.map_eq_none_iff, brk_none, List.mem_cons, not_or]
      exact ⟨fun h => ⟨fun hh => e hh.symm, h⟩, fun h => h.2⟩

theorem brk_app {c : UInt8} : ∀ {x y : List UInt8}, c ∉ x → brk c (x ++ c :: y) = some (x, y)
  | [], y, _ => by simp [brk]
  | b :: x, y, h => by
    rw [List.mem_cons, not_or] at h
    rw [List.cons_append, brk, if_neg (fun e => h.1 e.symm), brk_app h.2]
    rfl

theorem index_brk {c : UInt8} : ∀ (s : List UInt8), Lib.index s [c] = match brk c s with | none => -1 | some p => (p.1.length : Int)
  | [] => rfl
  | b :: l => by
    have ih := index_brk (c := c) l
    unfold Lib.index
    by_cases e : b = c
    · subst e
      simp [brk, List.isPrefixOf]
    · have hp : ([c] : List UInt8).isPrefixOf (b :: l) = false := by simp [List.isPrefixOf, Ne.symm e]
      rw [hp, brk, if_neg e, ih]
      cases h : brk c l with
      | none => simp
      | some p =>
        have : ((p.1.length : Int) == -1) = false := by rw [beq_eq_false_iff_ne]; omega
        simp [this]

theorem cut_brk (c : UInt8) (s : List UInt8) : Lib.cut s [c] = match brk c s with | none => (s, [], false) | some p => (p.1, p.2, true) := by
  unfold Lib.cut
  rw [index_brk]
  cases h : brk c s with
  | none => simp
  | some p =>
    obtain ⟨x, y⟩ := p
    have e := (brk_some h).1
    simp only
    rw [if_pos (by omega)]
    subst e
    simp

/-- The words of a line: it is cut at each blank. -/
def wds : List UInt8 → List (List UInt8)
  | [] => [[]]
  | b :: l => if b = 32 then [] :: wds l else match wds l with
    | [] => [[b]]
    | x :: r => (b :: x) :: r

theorem wds_one : ∀ {s : List UInt8}, 32 ∉ s → wds s = [s]
  | [], _ => rfl
  | b :: l, h => by
    rw [List.mem_cons, not_or] at h
    rw [wds, if_neg (fun e => h.1 e.symm), wds_one h.2]

theorem wds_app : ∀ {x y : List UInt8}, 32 ∉ x → wds (x ++ 32 :: y) = x :: wds y
  | [], y, _ => by simp [wds]
  | b :: x, y, h => by
    rw [List.mem_cons, not_or] at h
    rw [List.cons_append, wds, if_neg (fun e => h.1 e.symm), wds_app h.2]

theorem wds_ne (s : List UInt8) : wds s ≠ [] := by
  cases s with
  | nil => simp [wds]
  | cons b l =>
    rw [wds]
    split
    · simp
    · split <;> simp

theorem wds_brk (s : List UInt8) : wds s = match brk 32 s with | none => [s] | some p => p.1 :: wds p.2 := by
  cases h : brk 32 s with
  | none => exact wds_one (brk_none.1 h)
  | some p =>
    obtain ⟨x, y⟩ := p
    obtain ⟨e, hx⟩ := brk_some h
    subst e
    exact wds_app hx

theorem split_wds : ∀ (k : Nat) (s : List UInt8), (wds s).length ≤ k + 1 → Lib.splitK [32] 0 k s = wds s
  | 0, s, h => by
    have e := wds_brk s
    cases hb : brk 32 s with
    | none => rw [hb] at e; rw [e]; rfl
    | some p =>
      rw [hb] at e
      rw [e] at h
      have := List.length_pos_iff.2 (wds_ne p.2)
      simp only [List.length_cons] at h
      omega
  | k + 1, s, h => by
    have e := wds_brk s
    rw [Lib.splitK, index_brk]
    cases hb : brk 32 s with
    | none => rw [hb] at e; rw [e]; rfl
    | some p =>
      obtain ⟨x, y⟩ := p
      rw [hb] at e
      rw [e] at h
      have hs := (brk_some hb).1
      have hn : ((x.length : Int) == -1) = false := by rw [beq_eq_false_iff_ne]; omega
      simp only [hn]
      rw [e]
      simp only [Bool.false_eq_true, if_false, Nat.add_zero, Int.toNat_natCast, List.length_singleton]
      rw [hs]
      simp only [List.take_left', List.length_cons] at h ⊢
      have h2 : (x ++ 32 :: y).drop (x.length + 1) = y := by simp
      rw [h2, split_wds k y (by omega)]

theorem count_wds : ∀ (f : Nat) (s : List UInt8), s.length < f → Lib.countFrom [32] f s + 1 = (wds s).length
  | 0, s, h => by omega
  | f + 1, s, h => by
    have e := wds_brk s
    rw [Lib.countFrom, index_brk]
    cases hb : brk 32 s with
    | none => rw [hb] at e; rw [e]; rfl
    | some p =>
      obtain ⟨x, y⟩ := p
      rw [hb] at e
      have hs := (brk_some hb).1
      have hn : ((x.length : Int) == -1) = false := by rw [beq_eq_false_iff_ne]; omega
      have h2 : s.drop (x.length + 1) = y := by rw [hs]; simp
      have hy : y.length < f := by rw [hs] at h; simp at h; omega
      simp only [hn]
      rw [e]
      simp only [Bool.false_eq_true, if_false, Int.toNat_natCast, List.length_cons, List.length_nil, Nat.zero_add]
      rw [h2]
      have := count_wds f y hy
      omega

theorem split_all (s : List UInt8) : Lib.splitK [32] 0 (Lib.count s [32]) s = wds s ∧ Lib.count s [32] + 1 = (wds s).length := by
  have h := count_wds (s.length + 1) s (by omega)
  exact ⟨split_wds _ s (by unfold Lib.count; omega), h⟩

/-- A line of two words, of three. -/
theorem wds_two {s a b : List UInt8} (h : wds s = [a, b]) : s = a ++ 32 :: b := by
  have e := wds_brk s
  cases hb : brk 32 s with
  | none => rw [hb, h] at e; cases e
  | some p =>
    obtain ⟨x, y⟩ := p
    rw [hb, h] at e
    simp only [List.cons.injEq] at e
    obtain ⟨rfl, e2⟩ := e
    have e3 := wds_brk y
    cases hc : brk 32 y with
    | none =>
      rw [hc, ← e2] at e3
      simp only [List.cons.injEq, and_true] at e3
      rw [(brk_some hb).1, e3]
    | some q =>
      rw [hc, ← e2] at e3
      simp only [List.cons.injEq] at e3
      exact absurd e3.2.symm (wds_ne _)

theorem wds_three {s a b c : List UInt8} (h : wds s = [a, b, c]) : s = a ++ 32 :: (b ++ 32 :: c) := by
  have e := wds_brk s
  cases hb : brk 32 s with
  | none => rw [hb, h] at e; cases e
  | some p =>
    obtain ⟨x, y⟩ := p
    rw [hb, h] at e
    simp only [List.cons.injEq] at e
    obtain ⟨rfl, e2⟩ := e
    rw [(brk_some hb).1, wds_two e2.symm]

/-- The kind whose word it is, or 0. -/
def kOf (a : ByteArray) : Nat := if a = kw 1 then 1 else if a = kw 2 then 2 else if a = kw 3 then 3 else if a = kw 4 then 4 else if a = kw 5 then 5 else if a = kw 6 then 6 else if a = kw 7 then 7 else 0

theorem kOf_le (a : ByteArray) : kOf a ≤ 7 := by
  unfold kOf
  repeat' split
  all_goals omega

theorem kOf_kw {k : Nat} (h1 : 1 ≤ k) (h7 : k ≤ 7) : kOf (kw k) = k := by
  match k, h1, h7 with
  | 1, _, _ => decide
  | 2, _, _ => decide
  | 3, _, _ => decide
  | 4, _, _ => decide
  | 5, _, _ => decide
  | 6, _, _ => decide
  | 7, _, _ => decide

theorem kw_kOf {a : ByteArray} (h : kOf a ≠ 0) : kw (kOf a) = a := by
  unfold kOf at h ⊢
  repeat' split
  all_goals first | (rename_i e; exact e.symm) | skip
  all_goals simp_all

def flowWd : ByteArray := ⟨#[102, 108, 111, 119]⟩

/-- What has been read: nodes (name, kind) and flows (names). -/
abbrev Dft := List (ByteArray × Nat) × List (ByteArray × ByteArray)

def byt (l : List UInt8) : ByteArray := ⟨l.toArray⟩

theorem byt_data (b : ByteArray) : byt b.data.toList = b := rfl
theorem data_byt (l : List UInt8) : (byt l).data.toList = l := by simp [byt]

/-- What a line's words say. -/
def rdW (d : Dft) (ws : List ByteArray) : Option Dft :=
  match ws with
  | [a, b] => if d.2 = [] ∧ kOf a ≠ 0 ∧ nameOk b = true then some (d.1 ++ [(b, kOf a)], d.2) else none
  | [a, b, c] => if a = flowWd ∧ nameOk b = true ∧ nameOk c = true then some (d.1, d.2 ++ [(b, c)]) else none
  | _ => none

def rdL (d : Dft) (l : List UInt8) : Option Dft := rdW d ((wds l).map byt)

/-- One line more. -/
def rd1 (x : List UInt8 × Dft) : Option (List UInt8 × Dft) :=
  match brk 10 x.1 with
  | some p => (rdL x.2 p.1).map fun d => (p.2, d)
  | none => none

/-- Behind k lines: what is left, what has been read. -/
def st (s : List UInt8) : Nat → Option (List UInt8 × Dft)
  | 0 => some (s, ([], []))
  | k + 1 => (st s k).bind rd1

def lnN (p : ByteArray × Nat) : List UInt8 := (kw p.2).data.toList ++ 32 :: p.1.data.toList
def lnF (p : ByteArray × ByteArray) : List UInt8 := flowWd.data.toList ++ 32 :: (p.1.data.toList ++ 32 :: p.2.data.toList)

/-- The text of a draft. -/
def tx (d : Dft) : List UInt8 := d.1.flatMap (fun p => lnN p ++ [10]) ++ d.2.flatMap (fun p => lnF p ++ [10])

/-- A draft that a text can say. -/
structure Good (d : Dft) : Prop where
  nds : ∀ p ∈ d.1, nameOk p.1 = true ∧ 1 ≤ p.2 ∧ p.2 ≤ 7
  fls : ∀ p ∈ d.2, nameOk p.1 = true ∧ nameOk p.2 = true

theorem rdW_text {d d' : Dft} {ws : List ByteArray} (hg : Good d) (h : rdW d ws = some d') : Good d' ∧ (∀ l : List UInt8, (wds l).map byt = ws → tx d' = tx d ++ (l ++ [10])) ∧ d'.1.length + d'.2.length = d.1.length + d.2.length + 1 := by
  unfold rdW at h
  split at h
  · rename_i a b
    split at h
    · rename_i hc
      obtain ⟨hc1, hc2, hc3⟩ := hc
      cases h
      refine ⟨⟨fun p hp => ?_, hg.fls⟩, fun l hl => ?_, by simp; omega⟩
      · rcases List.mem_append.1 hp with hp | hp
        · exact hg.nds p hp
        · rw [List.mem_singleton] at hp
          subst hp
          have := kOf_le a
          exact ⟨hc3, by show 1 ≤ kOf a; omega, this⟩
      · obtain ⟨x, y, hw, rfl, rfl⟩ : ∃ x y, wds l = [x, y] ∧ byt x = a ∧ byt y = b := by
          match hw : wds l, hl with
          | [x, y], hl => simp at hl; exact ⟨x, y, rfl, hl.1, hl.2⟩
        have e := wds_two hw
        have e2 : (kw (kOf (byt x))).data.toList = x := by rw [kw_kOf hc2, data_byt]
        simp only [tx, lnN, hc1, List.flatMap_append, List.flatMap_cons, List.flatMap_nil, List.append_nil, e2, data_byt]
        rw [e]
    · cases h
  · rename_i a b c
    split at h
    · rename_i hc
      obtain ⟨hc1, hc2, hc3⟩ := hc
      cases h
      refine ⟨⟨hg.nds, fun p hp => ?_⟩, fun l hl => ?_, by simp; omega⟩
      · rcases List.mem_append.1 hp with hp | hp
        · exact hg.fls p hp
        · rw [List.mem_singleton] at hp
          subst hp
          exact ⟨hc2, hc3⟩
      · obtain ⟨x, y, z, hw, rfl, rfl, rfl⟩ : ∃ x y z, wds l = [x, y, z] ∧ byt x = a ∧ byt y = b ∧ byt z = c := by
          match hw : wds l, hl with
          | [x, y, z], hl => simp at hl; exact ⟨x, y, z, rfl, hl.1, hl.2.1, hl.2.2⟩
        have e := wds_three hw
        have e2 : flowWd.data.toList = x := by rw [← hc1, data_byt]
        simp only [tx, lnF, List.flatMap_append, List.flatMap_cons, List.flatMap_nil, List.append_nil, e2, data_byt]
        rw [e]
        simp
    · cases h
  · cases h

/-- What has been read is the text up to there. -/
theorem st_text {s : List UInt8} : ∀ {k r d}, st s k = some (r, d) → Good d ∧ s = tx d ++ r ∧ k = d.1.length + d.2.length
  | 0, r, d, h => by
    cases h
    exact ⟨⟨fun p hp => absurd hp (by simp), fun p hp => absurd hp (by simp)⟩, by simp [tx], rfl⟩
  | k + 1, r, d, h => by
    rw [st] at h
    obtain ⟨⟨r0, d0⟩, h1, h2⟩ := Option.bind_eq_some_iff.1 h
    obtain ⟨g, e, hk⟩ := st_text h1
    unfold rd1 at h2
    split at h2
    · rename_i p hp
      obtain ⟨l, r'⟩ := p
      obtain ⟨d', h3, h4⟩ := Option.map_eq_some_iff.1 h2
      cases h4
      obtain ⟨g', e', hk'⟩ := rdW_text g h3
      refine ⟨g', ?_, by omega⟩
      have e1 : r0 = l ++ 10 :: r' := (brk_some hp).1
      rw [e, e' l rfl, e1]
      simp
    · cases h2

theorem name_no {b : ByteArray} (h : nameOk b = true) {c : UInt8} (hc : c.toNat < 97) : c ∉ b.data.toList := by
  intro hm
  obtain ⟨i, hi, e⟩ := List.getElem_of_mem hm
  have hs : i < b.size := by rw [Array.length_toList] at hi; exact hi
  have hl : ¬ (97 ≤ (b[i].toNat : Int) ∧ (b[i].toNat : Int) ≤ 122) := by
    have : b[i] = c := e
    rw [this]
    omega
  rw [nameOk_sign i hs hl] at h
  cases h

theorem kw_no {k : Nat} (h1 : 1 ≤ k) (h7 : k ≤ 7) : (32 : UInt8) ∉ (kw k).data.toList ∧ (10 : UInt8) ∉ (kw k).data.toList := by
  match k, h1, h7 with
  | 1, _, _ => decide
  | 2, _, _ => decide
  | 3, _, _ => decide
  | 4, _, _ => decide
  | 5, _, _ => decide
  | 6, _, _ => decide
  | 7, _, _ => decide

theorem rd1_node {ns : List (ByteArray × Nat)} {p : ByteArray × Nat} {r : List UInt8} (h : nameOk p.1 = true ∧ 1 ≤ p.2 ∧ p.2 ≤ 7) : rd1 (lnN p ++ 10 :: r, (ns, [])) = some (r, (ns ++ [p], [])) := by
  obtain ⟨b, k⟩ := p
  obtain ⟨h1, h2, h3⟩ := h
  simp only at h1 h2 h3
  have k1 := kw_no h2 h3
  have n1 : (32 : UInt8) ∉ b.data.toList := name_no h1 (by decide)
  have n2 : (10 : UInt8) ∉ b.data.toList := name_no h1 (by decide)
  have hb : brk 10 (lnN (b, k) ++ 10 :: r) = some (lnN (b, k), r) := brk_app (by
    simp only [lnN, List.mem_append, List.mem_cons, not_or]
    exact ⟨k1.2, by decide, n2⟩)
  have hw : wds (lnN (b, k)) = [(kw k).data.toList, b.data.toList] := by
    simp only [lnN]
    rw [wds_app k1.1, wds_one n1]
  unfold rd1
  simp only [hb, rdL, hw, List.map_cons, List.map_nil, byt_data, rdW]
  rw [if_pos ⟨trivial, by rw [kOf_kw h2 h3]; omega, h1⟩, kOf_kw h2 h3]
  rfl

theorem rd1_flow {d : Dft} {p : ByteArray × ByteArray} {r : List UInt8} (h : nameOk p.1 = true ∧ nameOk p.2 = true) : rd1 (lnF p ++ 10 :: r, d) = some (r, (d.1, d.2 ++ [p])) := by
  obtain ⟨a, b⟩ := p
  obtain ⟨h1, h2⟩ := h
  simp only at h1 h2
  have n1 : (32 : UInt8) ∉ a.data.toList := name_no h1 (by decide)
  have n2 : (10 : UInt8) ∉ a.data.toList := name_no h1 (by decide)
  have n3 : (32 : UInt8) ∉ b.data.toList := name_no h2 (by decide)
  have n4 : (10 : UInt8) ∉ b.data.toList := name_no h2 (by decide)
  have f1 : (32 : UInt8) ∉ flowWd.data.toList := by decide
  have f2 : (10 : UInt8) ∉ flowWd.data.toList := by decide
  have hb : brk 10 (lnF (a, b) ++ 10 :: r) = some (lnF (a, b), r) := brk_app (by
    simp only [lnF, List.mem_append, List.mem_cons, not_or]
    exact ⟨f2, by decide, n2, by decide, n4⟩)
  have hw : wds (lnF (a, b)) = [flowWd.data.toList, a.data.toList, b.data.toList] := by
    simp only [lnF]
    rw [wds_app f1, wds_app n1, wds_one n3]
  unfold rd1
  simp only [hb, rdL, hw, List.map_cons, List.map_nil, byt_data, rdW]
  rw [if_pos ⟨trivial, h1, h2⟩]
  rfl

theorem st_nodes : ∀ (n : Nat) (ns : List (ByteArray × Nat)), ns.length = n → (∀ p ∈ ns, nameOk p.1 = true ∧ 1 ≤ p.2 ∧ p.2 ≤ 7) → ∀ r, st (tx (ns, []) ++ r) n = some (r, (ns, []))
  | 0, ns, hn, _, r => by
    obtain rfl : ns = [] := List.length_eq_zero_iff.1 hn
    simp [tx, st]
  | n + 1, ns, hn, hg, r => by
    rcases List.eq_nil_or_concat ns with rfl | ⟨ms, p, rfl⟩
    · simp at hn
    · rw [List.concat_eq_append] at hn hg ⊢
      have ih := st_nodes n ms (by simpa using hn) (fun q hq => hg q (List.mem_append.2 (Or.inl hq))) (lnN p ++ 10 :: r)
      have e : tx (ms ++ [p], []) ++ r = tx (ms, []) ++ (lnN p ++ 10 :: r) := by simp [tx]
      rw [e, st, ih]
      exact rd1_node (hg p (by simp))

/-- A text that a draft has is read as that draft. -/
theorem st_tx : ∀ (n : Nat) (d : Dft), d.2.length = n → Good d → ∀ r, st (tx d ++ r) (d.1.length + n) = some (r, d)
  | 0, (ns, fs), hn, hg, r => by
    obtain rfl : fs = [] := List.length_eq_zero_iff.1 hn
    exact st_nodes _ ns rfl hg.nds r
  | n + 1, (ns, fs), hn, hg, r => by
    rcases List.eq_nil_or_concat fs with rfl | ⟨ms, p, rfl⟩
    · simp at hn
    · rw [List.concat_eq_append] at hn hg ⊢
      have ih := st_tx n (ns, ms) (by simpa using hn) ⟨hg.nds, fun q hq => hg.fls q (List.mem_append.2 (Or.inl hq))⟩ (lnF p ++ 10 :: r)
      have e : tx (ns, ms ++ [p]) ++ r = tx (ns, ms) ++ (lnF p ++ 10 :: r) := by simp [tx]
      rw [e, ← Nat.add_assoc, st, ih]
      exact rd1_flow (hg.fls p (by simp))

theorem rd1_end (d : Dft) : rd1 ([], d) = none := rfl

theorem st_none {s : List UInt8} {k : Nat} (h : st s k = none) : ∀ n, k ≤ n → st s n = none := by
  intro n hn
  induction n with
  | zero => obtain rfl : k = 0 := by omega
            exact h
  | succ n ih =>
    by_cases e : k = n + 1
    · rw [← e]; exact h
    · rw [st, ih (by omega)]
      rfl

theorem st_end {s : List UInt8} {k : Nat} {d : Dft} (h : st s k = some ([], d)) : st s (k + 1) = none := by
  rw [st, h]
  exact rd1_end d

/-- Two ends are one. -/
theorem st_one {s : List UInt8} {k n : Nat} {d : Dft} {x : List UInt8 × Dft} (h : st s k = some ([], d)) (h1 : st s n = some x) (h2 : st s (n + 1) = none) : n = k ∧ x = ([], d) := by
  have e : n = k := by
    by_cases c : n < k
    · have := st_none h2 k (by omega)
      rw [this] at h; cases h
    · by_cases c2 : k < n
      · have := st_none (st_end h) n (by omega)
        rw [this] at h1; cases h1
      · omega
  subst e
  rw [h] at h1
  cases h1
  exact ⟨rfl, rfl⟩

end Go.Proofs.YtnpdkpbhkjnbhaaDoor
