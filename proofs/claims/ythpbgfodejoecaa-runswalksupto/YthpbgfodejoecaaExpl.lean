/- An exploration: what comes, step by step. -/
import Derived.Test.YthpbgfodejoecaaLeafJ
namespace Go.Proofs.Ythpbgfodejoecaa

/-- How far an exploration has come: the markings, how each first came, the edges of those that are done, and of the one at hand. -/
structure Xp where
  marks : List (List Int)
  ways : List (List Int)
  nexts : List (List (Int × Int))
  cur : List (Int × Int)

/-- The marking at hand. -/
def Xp.here (S : Xp) : List Int := S.marks.getD S.nexts.length []

/-- The way to it, and one step more. -/
def Xp.way (S : Xp) (s : Int) : List Int := S.ways.getD S.nexts.length [] ++ [s]

/-- Has it more than tk somewhere? -/
def ovr (tk : Int) (m : List Int) : Bool := m.any (fun x => decide (tk < x))

/-- One edge. -/
def xput (tk : Int) (q : Nat) (nx : Int → List Int → List Int) (S : Xp) (s : Int) : Sum (Int × List Int) Xp :=
  if ovr tk (nx s S.here) = true then .inl (7, S.way s)
  else if nx s S.here ∈ S.marks then .inr { S with cur := S.cur ++ [(s, ((S.marks.idxOf (nx s S.here) : Nat) : Int))] }
  else if S.marks.length = q then .inl (8, S.way s)
  else .inr { S with marks := S.marks ++ [nx s S.here], ways := S.ways ++ [S.way s], cur := S.cur ++ [(s, ((S.marks.length : Nat) : Int))] }

/-- The edges of the marking at hand. -/
def xinner (tk : Int) (q : Nat) (nx : Int → List Int → List Int) : List Int → Xp → Sum (Int × List Int) Xp
  | [], S => .inr S
  | s :: l, S => match xput tk q nx S s with
    | .inl e => .inl e
    | .inr S' => xinner tk q nx l S'

/-- The marking at hand is done. -/
def Xp.close (S : Xp) : Xp := { S with nexts := S.nexts ++ [S.cur], cur := [] }

def xouter (tk : Int) (q : Nat) (nx : Int → List Int → List Int) (cn : List Int → List Int) : Nat → Xp → Sum (Int × List Int) Xp
  | 0, S => .inr S
  | f + 1, S => if S.nexts.length < S.marks.length then
      match xinner tk q nx (cn S.here) S with
      | .inl e => .inl e
      | .inr S' => xouter tk q nx cn f S'.close
    else .inr S

def xstart (m0 : List Int) : Xp := { marks := [m0], ways := [[]], nexts := [], cur := [] }

/-- A way from m0 by enabled steps, all of whose markings are P. -/
def Goes (nx : Int → List Int → List Int) (cn : List Int → List Int) (m0 : List Int) (P : List Int → Prop) (w m : List Int) : Prop :=
  ∃ Ms : Nat → List Int, Ms 0 = m0 ∧ Ms w.length = m ∧ (∀ i, i ≤ w.length → P (Ms i)) ∧ ∀ i, i < w.length → w.getD i 0 ∈ cn (Ms i) ∧ Ms (i + 1) = nx (w.getD i 0) (Ms i)

theorem Goes.nil {nx : Int → List Int → List Int} {cn : List Int → List Int} {m0 : List Int} {P : List Int → Prop} (h : P m0) : Goes nx cn m0 P [] m0 :=
  ⟨fun _ => m0, rfl, rfl, fun _ _ => h, fun i hi => absurd hi (Nat.not_lt_zero i)⟩

theorem Goes.snoc {nx : Int → List Int → List Int} {cn : List Int → List Int} {m0 : List Int} {P : List Int → Prop} {w m : List Int} {s : Int} (h : Goes nx cn m0 P w m) (hs : s ∈ cn m) (hP : P (nx s m)) : Goes nx cn m0 P (w ++ [s]) (nx s m) := by
  obtain ⟨Ms, h0, h1, h2, h3⟩ := h
  have hlen : (w ++ [s]).length = w.length + 1 := by simp
  refine ⟨fun i => if i = w.length + 1 then nx s m else Ms i, by simp [h0], by simp, fun i hi => ?_, fun i hi => ?_⟩
  · by_cases e : i = w.length + 1
    · simp only [if_pos e]
      exact hP
    · simp only [if_neg e]
      exact h2 i (by omega)
  · by_cases e : i = w.length
    · subst e
      simp only [if_neg (show ¬ w.length = w.length + 1 by omega), if_true]
      rw [show (w ++ [s]).getD w.length 0 = s by simp, h1]
      exact ⟨hs, rfl⟩
    · have hlt : i < w.length := by omega
      simp only [if_neg (show ¬ i = w.length + 1 by omega), if_neg (show ¬ i + 1 = w.length + 1 by omega)]
      rw [show (w ++ [s]).getD i 0 = w.getD i 0 by simp [List.getElem?_append_left hlt]]
      exact h3 i hlt

theorem Goes.mono {nx : Int → List Int → List Int} {cn : List Int → List Int} {m0 : List Int} {P Q : List Int → Prop} (hPQ : ∀ m, P m → Q m) {w m : List Int} (h : Goes nx cn m0 P w m) : Goes nx cn m0 Q w m := by
  obtain ⟨Ms, h0, h1, h2, h3⟩ := h
  exact ⟨Ms, h0, h1, fun i hi => hPQ _ (h2 i hi), h3⟩

/-- What holds all the time. -/
structure XInv (tk : Int) (q : Nat) (nx : Int → List Int → List Int) (cn : List Int → List Int) (m0 : List Int) (S : Xp) (done : List Int) : Prop where
  first : S.marks[0]? = some m0
  nodup : S.marks.Nodup
  low : ∀ m, m ∈ S.marks → ovr tk m = false
  few : S.marks.length ≤ q
  wlen : S.ways.length = S.marks.length
  nlen : S.nexts.length ≤ S.marks.length
  edges : ∀ (n : Nat) l m, S.nexts[n]? = some l → S.marks[n]? = some m → l.map Prod.fst = cn m ∧ ∀ e, e ∈ l → ∃ k : Nat, e.2 = k ∧ S.marks[k]? = some (nx e.1 m)
  curs : S.cur.map Prod.fst = done
  cure : ∀ m, S.marks[S.nexts.length]? = some m → ∀ e, e ∈ S.cur → ∃ k : Nat, e.2 = k ∧ S.marks[k]? = some (nx e.1 m)
  led : ∀ k : Nat, 0 < k → k < S.marks.length → (∃ (n : Nat) (l : List (Int × Int)) (e : Int × Int), n < k ∧ S.nexts[n]? = some l ∧ e ∈ l ∧ e.2 = k) ∨ (S.nexts.length < k ∧ ∃ e, e ∈ S.cur ∧ e.2 = (k : Int))
  paths : ∀ (k : Nat) w m, S.ways[k]? = some w → S.marks[k]? = some m → Goes nx cn m0 (fun x => x ∈ S.marks) w m ∧ w.length ≤ k

theorem xinv_start {tk : Int} {q : Nat} {nx : Int → List Int → List Int} {cn : List Int → List Int} {m0 : List Int} (h0 : ovr tk m0 = false) (hq : 1 ≤ q) : XInv tk q nx cn m0 (xstart m0) [] where
  first := rfl
  nodup := by simp [xstart]
  low m hm := by
    obtain rfl : m = m0 := by simpa [xstart] using hm
    exact h0
  few := hq
  wlen := rfl
  nlen := Nat.zero_le _
  edges n l m h _ := by simp [xstart] at h
  curs := rfl
  cure m _ e he := by simp [xstart] at he
  led k h1 h2 := by
    have : k < 1 := h2
    omega
  paths k w m h1 h2 := by
    cases k with
    | zero =>
      obtain rfl : [] = w := by simpa [xstart] using h1
      obtain rfl : m0 = m := by simpa [xstart] using h2
      exact ⟨.nil (by simp [xstart]), Nat.le_refl _⟩
    | succ k => simp [xstart] at h1

theorem xget_append {α : Type} {l : List α} {a b : α} {k : Nat} (h : l[k]? = some b) : (l ++ [a])[k]? = some b := by
  have := (List.getElem?_eq_some_iff.1 h).1
  rw [List.getElem?_append_left this]
  exact h

theorem xget_snoc {α : Type} {l : List α} {a b : α} {k : Nat} (h : (l ++ [a])[k]? = some b) : l[k]? = some b ∨ k = l.length ∧ b = a := by
  by_cases hk : k < l.length
  · rw [List.getElem?_append_left hk] at h
    exact Or.inl h
  · rw [List.getElem?_append_right (by omega)] at h
    have h1 := (List.getElem?_eq_some_iff.1 h).1
    have hk2 : k = l.length := by simp at h1; omega
    subst hk2
    simp at h
    exact Or.inr ⟨rfl, h.symm⟩

theorem xhere {S : Xp} (h : S.nexts.length < S.marks.length) : S.marks[S.nexts.length]? = some S.here := by
  unfold Xp.here
  rw [List.getD_eq_getElem?_getD, List.getElem?_eq_getElem h]
  rfl

theorem xidx {l : List (List Int)} {a : List Int} (h : a ∈ l) : l[l.idxOf a]? = some a := by
  have h1 : l.idxOf a < l.length := List.idxOf_lt_length_of_mem h
  rw [List.getElem?_eq_getElem h1]
  simp

/-- What a refusal means. -/
def XBad (tk : Int) (q : Nat) (nx : Int → List Int → List Int) (cn : List Int → List Int) (m0 : List Int) (r : Int × List Int) : Prop :=
  ∃ (w m : List Int) (s : Int) (P : List Int → Prop), r.2 = w ++ [s] ∧ Goes nx cn m0 (fun x => P x ∧ ovr tk x = false) w m ∧ s ∈ cn m ∧ w.length < q ∧ ((r.1 = 7 ∧ ovr tk (nx s m) = true) ∨ (r.1 = 8 ∧ ovr tk (nx s m) = false ∧ ¬ P (nx s m)))

theorem xput_inv {tk : Int} {q : Nat} {nx : Int → List Int → List Int} {cn : List Int → List Int} {m0 : List Int} {S : Xp} {done : List Int} {s : Int} (h : XInv tk q nx cn m0 S done) (hlt : S.nexts.length < S.marks.length) (hs : s ∈ cn S.here) :
    (∃ r, xput tk q nx S s = .inl r ∧ XBad tk q nx cn m0 r) ∨ (∃ S', xput tk q nx S s = .inr S' ∧ XInv tk q nx cn m0 S' (done ++ [s]) ∧ S'.nexts = S.nexts ∧ S'.here = S.here ∧ S'.nexts.length < S'.marks.length) := by
  have hh := xhere hlt
  have hwl : S.nexts.length < S.ways.length := by rw [h.wlen]; exact hlt
  have hw : S.ways[S.nexts.length]? = some (S.ways.getD S.nexts.length []) := by
    rw [List.getD_eq_getElem?_getD, List.getElem?_eq_getElem hwl]
    rfl
  obtain ⟨hg, hl⟩ := h.paths _ _ _ hw hh
  have hfew := h.few
  have bad : ∀ (c : Int), ((c = 7 ∧ ovr tk (nx s S.here) = true) ∨ (c = 8 ∧ ovr tk (nx s S.here) = false ∧ ¬ nx s S.here ∈ S.marks)) → XBad tk q nx cn m0 (c, S.way s) := fun c hc =>
    ⟨_, _, s, fun x => x ∈ S.marks, rfl, hg.mono (fun m hm => ⟨hm, h.low m hm⟩), hs, by omega, hc⟩
  unfold xput
  by_cases h1 : ovr tk (nx s S.here) = true
  · rw [if_pos h1]
    exact Or.inl ⟨_, rfl, bad 7 (Or.inl ⟨rfl, h1⟩)⟩
  · rw [if_neg h1]
    have h1' : ovr tk (nx s S.here) = false := by simpa using h1
    by_cases h2 : nx s S.here ∈ S.marks
    · rw [if_pos h2]
      refine Or.inr ⟨_, rfl, ?_, rfl, rfl, hlt⟩
      exact { first := h.first, nodup := h.nodup, low := h.low, few := h.few, wlen := h.wlen, nlen := h.nlen, edges := h.edges,
              curs := by simp [h.curs],
              cure := fun m hm e he => by
                obtain rfl : m = S.here := Option.some.inj (hm.symm.trans hh)
                rcases List.mem_append.1 he with he | he
                · exact h.cure _ hh e he
                · obtain rfl : e = _ := List.mem_singleton.1 he
                  exact ⟨_, rfl, xidx h2⟩,
              led := fun k h3 h4 => by
                rcases h.led k h3 h4 with h5 | ⟨h5, e, h6, h7⟩
                · exact Or.inl h5
                · exact Or.inr ⟨h5, e, List.mem_append.2 (Or.inl h6), h7⟩,
              paths := h.paths }
    · rw [if_neg h2]
      by_cases h3 : S.marks.length = q
      · rw [if_pos h3]
        exact Or.inl ⟨_, rfl, bad 8 (Or.inr ⟨rfl, h1', h2⟩)⟩
      · rw [if_neg h3]
        have hh' : (S.marks ++ [nx s S.here])[S.nexts.length]? = some S.here := xget_append hh
        refine Or.inr ⟨_, rfl, ?_, rfl, ?_, by simp; omega⟩
        · exact { first := xget_append h.first,
                  nodup := by
                    show (S.marks ++ [nx s S.here]).Nodup
                    rw [List.nodup_append]
                    exact ⟨h.nodup, by simp, fun a ha b hb => by
                      obtain rfl : b = _ := List.mem_singleton.1 hb
                      exact fun e => h2 (e ▸ ha)⟩,
                  low := fun m hm => by
                    rcases List.mem_append.1 hm with hm | hm
                    · exact h.low m hm
                    · obtain rfl : m = _ := List.mem_singleton.1 hm
                      exact h1',
                  few := by simp; omega,
                  wlen := by simp [h.wlen],
                  nlen := by have := h.nlen; simp; omega,
                  edges := fun n l m hl hm => by
                    have hn : n < S.marks.length := by
                      have : n < S.nexts.length := (List.getElem?_eq_some_iff.1 hl).1
                      omega
                    rw [List.getElem?_append_left hn] at hm
                    obtain ⟨h4, h5⟩ := h.edges n l m hl hm
                    refine ⟨h4, fun e he => ?_⟩
                    obtain ⟨k, h6, h7⟩ := h5 e he
                    exact ⟨k, h6, xget_append h7⟩,
                  curs := by simp [h.curs],
                  cure := fun m hm e he => by
                    obtain rfl : m = S.here := Option.some.inj (hm.symm.trans hh')
                    rcases List.mem_append.1 he with he | he
                    · obtain ⟨k, h6, h7⟩ := h.cure _ hh e he
                      exact ⟨k, h6, xget_append h7⟩
                    · obtain rfl : e = _ := List.mem_singleton.1 he
                      exact ⟨_, rfl, by simp⟩,
                  led := fun k h4 h5 => by
                    have h5' : k < S.marks.length + 1 := by simpa using h5
                    by_cases h6 : k < S.marks.length
                    · rcases h.led k h4 h6 with h7 | ⟨h7, e, h8, h9⟩
                      · exact Or.inl h7
                      · exact Or.inr ⟨h7, e, List.mem_append.2 (Or.inl h8), h9⟩
                    · obtain rfl : k = S.marks.length := by omega
                      exact Or.inr ⟨hlt, _, List.mem_append.2 (Or.inr (List.mem_singleton.2 rfl)), rfl⟩,
                  paths := fun k w m hw' hm => by
                    have up : ∀ x, x ∈ S.marks → x ∈ S.marks ++ [nx s S.here] := fun x hx => List.mem_append.2 (Or.inl hx)
                    rcases xget_snoc hw' with h4 | ⟨h4, h5⟩
                    · have hk : k < S.marks.length := by
                        have := (List.getElem?_eq_some_iff.1 h4).1
                        rw [h.wlen] at this
                        exact this
                      rw [List.getElem?_append_left hk] at hm
                      obtain ⟨h6, h7⟩ := h.paths k w m h4 hm
                      exact ⟨h6.mono up, h7⟩
                    · subst h5
                      rcases xget_snoc hm with h6 | ⟨_, h6⟩
                      · have := (List.getElem?_eq_some_iff.1 h6).1
                        rw [h4, h.wlen] at this
                        omega
                      · subst h6
                        refine ⟨.snoc (hg.mono up) hs (List.mem_append.2 (Or.inr (List.mem_singleton.2 rfl))), ?_⟩
                        rw [h4, h.wlen]
                        unfold Xp.way
                        rw [List.length_append, List.length_singleton]
                        omega }
        · exact Option.some.inj ((xhere (S := { S with marks := S.marks ++ [nx s S.here], ways := S.ways ++ [S.way s], cur := S.cur ++ [(s, ((S.marks.length : Nat) : Int))] }) (by simp; omega)).symm.trans hh')

theorem xinner_inv {tk : Int} {q : Nat} {nx : Int → List Int → List Int} {cn : List Int → List Int} {m0 : List Int} : ∀ {l : List Int} {S : Xp} {done : List Int}, XInv tk q nx cn m0 S done → S.nexts.length < S.marks.length → done ++ l = cn S.here →
    (∃ r, xinner tk q nx l S = .inl r ∧ XBad tk q nx cn m0 r) ∨ (∃ S', xinner tk q nx l S = .inr S' ∧ XInv tk q nx cn m0 S' (cn S.here) ∧ S'.nexts = S.nexts ∧ S'.here = S.here ∧ S'.nexts.length < S'.marks.length)
  | [], S, done, h, hlt, hd => Or.inr ⟨S, rfl, by rw [← hd, List.append_nil]; exact h, rfl, rfl, hlt⟩
  | s :: l, S, done, h, hlt, hd => by
    have hs : s ∈ cn S.here := by rw [← hd]; simp
    unfold xinner
    rcases xput_inv h hlt hs with ⟨r, h1, h2⟩ | ⟨S', h1, h2, h3, h4, h5⟩
    · rw [h1]
      exact Or.inl ⟨r, rfl, h2⟩
    · rw [h1]
      have := xinner_inv (l := l) h2 h5 (by rw [h4, ← hd]; simp)
      rw [h4, h3] at this
      exact this

theorem xclose_inv {tk : Int} {q : Nat} {nx : Int → List Int → List Int} {cn : List Int → List Int} {m0 : List Int} {S : Xp} (h : XInv tk q nx cn m0 S (cn S.here)) (hlt : S.nexts.length < S.marks.length) : XInv tk q nx cn m0 S.close [] where
  first := h.first
  nodup := h.nodup
  low := h.low
  few := h.few
  wlen := h.wlen
  nlen := by show (S.nexts ++ [S.cur]).length ≤ _; simp; exact hlt
  edges n l m hl hm := by
    rcases xget_snoc hl with h1 | ⟨h1, h2⟩
    · exact h.edges n l m h1 hm
    · subst h1
      subst h2
      obtain rfl : m = S.here := Option.some.inj (hm.symm.trans (xhere hlt))
      exact ⟨h.curs, h.cure _ hm⟩
  curs := rfl
  cure m _ e he := by cases he
  led k h1 h2 := by
    rcases h.led k h1 h2 with ⟨n, l, e, h3, h4, h5⟩ | ⟨h3, e, h4, h5⟩
    · exact Or.inl ⟨n, l, e, h3, xget_append h4, h5⟩
    · exact Or.inl ⟨_, _, e, h3, by show (S.nexts ++ [S.cur])[S.nexts.length]? = some S.cur; simp, h4, h5⟩
  paths := h.paths

/-- What an exploration that ends well, or is refused, has found. -/
theorem xouter_inv {tk : Int} {q : Nat} {nx : Int → List Int → List Int} {cn : List Int → List Int} {m0 : List Int} : ∀ {f : Nat} {S : Xp}, XInv tk q nx cn m0 S [] → q ≤ S.nexts.length + f →
    (∃ r, xouter tk q nx cn f S = .inl r ∧ XBad tk q nx cn m0 r) ∨ (∃ S', xouter tk q nx cn f S = .inr S' ∧ XInv tk q nx cn m0 S' [] ∧ S'.nexts.length = S'.marks.length)
  | 0, S, h, hf => Or.inr ⟨S, rfl, h, by have h1 := h.nlen; have h2 := h.few; omega⟩
  | f + 1, S, h, hf => by
    unfold xouter
    by_cases hlt : S.nexts.length < S.marks.length
    · rw [if_pos hlt]
      rcases xinner_inv (l := cn S.here) h hlt rfl with ⟨r, h1, h2⟩ | ⟨S', h1, h2, h3, h4, h5⟩
      · rw [h1]
        exact Or.inl ⟨r, rfl, h2⟩
      · rw [h1]
        rw [← h4] at h2
        exact xouter_inv (xclose_inv h2 h5) (by show q ≤ (S'.nexts ++ [S'.cur]).length + f; simp; rw [h3]; omega)
    · rw [if_neg hlt]
      exact Or.inr ⟨S, rfl, h, by have := h.nlen; omega⟩

end Go.Proofs.Ythpbgfodejoecaa
