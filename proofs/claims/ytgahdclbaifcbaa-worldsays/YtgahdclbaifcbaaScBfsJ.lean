/- Breadth first, as plain mathematics: what 'meet' and 'distances' do to far and order. Shortest ways, as plain mathematics: how far the next target is, and which nodes the least of the shortest ways goes by. The search in depth, as plain mathematics: what holds at each of its steps. -/
import Derived.Deep.OwnRows
import Derived.Maps.AppendAt
import Derived.Test.YtgahdclbaifcbaaRows
import Derived.WalkKit
import Derived.WalkSpells
import Derived.WalkLawsBesides
import Derived.Deep.QuietTactic
import Derived.BigQuiet
import Derived.Test.YtgahdclbaifcbaaFamJ
namespace Go.Proofs.Ytgahdclbaifcbaa

def sc_upd (F : Nat → Int) (x : Nat) (d : Int) : Nat → Int := fun i => if i = x then d else F i

theorem upd_at (F : Nat → Int) (x : Nat) (d : Int) : sc_upd F x d x = d := by simp [sc_upd]
theorem upd_ne (F : Nat → Int) (x i : Nat) (d : Int) (h : i ≠ x) : sc_upd F x d i = F i := by simp [sc_upd, h]

/-- How many of the first G are not met yet. -/
def cnt (F : Nat → Int) : Nat → Nat
  | 0 => 0
  | n + 1 => cnt F n + if F n = -1 then 1 else 0

theorem cnt_upd_past (F : Nat → Int) (x : Nat) (d : Int) : ∀ n, n ≤ x → cnt (sc_upd F x d) n = cnt F n
  | 0, _ => rfl
  | n + 1, h => by
    simp only [cnt]
    rw [cnt_upd_past F x d n (by omega), upd_ne F x n d (by omega)]

theorem cnt_upd (F : Nat → Int) (x : Nat) (d : Int) (hx : F x = -1) (hd : d ≠ -1) : ∀ n, x < n → cnt (sc_upd F x d) n + 1 = cnt F n
  | n + 1, h => by
    simp only [cnt]
    by_cases e : n = x
    · subst e
      rw [cnt_upd_past F n d n (Nat.le_refl _), upd_at, if_neg hd, if_pos hx]
    · have := cnt_upd F x d hx hd n (by omega)
      rw [upd_ne F x n d e]
      omega

def mstep (d : Int) (x : Nat) (s : (Nat → Int) × List Int) : (Nat → Int) × List Int := if s.1 x = -1 then (sc_upd s.1 x d, s.2 ++ [(x : Int)]) else s

def meetTo (d : Int) (Z : Nat → Int) : Nat → (Nat → Int) × List Int → (Nat → Int) × List Int
  | 0, s => s
  | k + 1, s => mstep d (Z k).toNat (meetTo d Z k s)

theorem meet_hit {d : Int} {Z : Nat → Int} {k t : Nat} {s : (Nat → Int) × List Int} {F : Nat → Int} {O : List Int} (h : (F, O) = meetTo d Z k s) (hz : Z k = t) (hF : F t = -1) : (sc_upd F t d, O ++ [(t : Int)]) = meetTo d Z (k + 1) s := by
  show _ = mstep d (Z k).toNat (meetTo d Z k s)
  rw [← h, hz, Int.toNat_natCast]
  simp [mstep, hF]

theorem meet_miss {d : Int} {Z : Nat → Int} {k t : Nat} {s : (Nat → Int) × List Int} {F : Nat → Int} {O : List Int} (h : (F, O) = meetTo d Z k s) (hz : Z k = t) (hF : F t ≠ -1) : (F, O) = meetTo d Z (k + 1) s := by
  show _ = mstep d (Z k).toNat (meetTo d Z k s)
  rw [← h, hz, Int.toNat_natCast]
  simp [mstep, hF]

/-- One comes to x by k goings from a node of P. -/
def Wk (P : Nat → Prop) (E : Nat → Nat → Prop) : Nat → Nat → Prop
  | 0, x => P x
  | k + 1, x => ∃ y, Wk P E k y ∧ E y x

structure Inv (G : Nat) (P : Nat → Prop) (E : Nat → Nat → Prop) (d : Int) (F : Nat → Int) (O : List Int) : Prop where
  cntE : O.length + cnt F G = G
  inO : ∀ y ∈ O, ∃ x : Nat, x < G ∧ y = (x : Int)
  memF : ∀ x, x < G → ((x : Int) ∈ O ↔ F x ≠ -1)
  rng : ∀ x, x < G → F x ≠ -1 → 0 ≤ F x ∧ F x ≤ d
  srt : O.Pairwise (fun a b => F a.toNat ≤ F b.toNat)
  snd : ∀ x, x < G → F x ≠ -1 → Wk P E (F x).toNat x
  lvl : ∀ j, j < O.length → F (O.getD j 0).toNat ≤ j

theorem Inv.len {G : Nat} {P : Nat → Prop} {E : Nat → Nat → Prop} {d : Int} {F : Nat → Int} {O : List Int} (h : Inv G P E d F O) : O.length ≤ G := by have := h.cntE; omega

theorem Inv.mono {G : Nat} {P : Nat → Prop} {E : Nat → Nat → Prop} {d d' : Int} {F : Nat → Int} {O : List Int} (h : Inv G P E d F O) (hd : d ≤ d') : Inv G P E d' F O :=
  ⟨h.cntE, h.inO, h.memF, fun x hx hF => by have := h.rng x hx hF; omega, h.srt, h.snd, h.lvl⟩

theorem getD_mem {O : List Int} {i : Nat} (h : i < O.length) : O.getD i 0 ∈ O := by
  rw [List.getD_eq_getElem?_getD, List.getElem?_eq_getElem h]
  exact List.getElem_mem _

theorem getD_append_left {O r : List Int} {i : Nat} (h : i < O.length) : (O ++ r).getD i 0 = O.getD i 0 := by
  simp [List.getD_eq_getElem?_getD, List.getElem?_append_left h]

theorem Inv.add {G : Nat} {P : Nat → Prop} {E : Nat → Nat → Prop} {d : Int} {F : Nat → Int} {O : List Int} (h : Inv G P E d F O) {x : Nat} (hx : x < G) (hd : 0 ≤ d) (hdl : d ≤ O.length) (hF : F x = -1) (hw : Wk P E d.toNat x) : Inv G P E d (sc_upd F x d) (O ++ [(x : Int)]) := by
  have hO : (x : Int) ∉ O := fun hh => (h.memF x hx).1 hh hF
  have old : ∀ y ∈ O, sc_upd F x d y.toNat = F y.toNat := fun y hy => by
    obtain ⟨z, _, rfl⟩ := h.inO y hy
    exact upd_ne _ _ _ _ (fun e => hO (by simp at e; rw [← e]; exact hy))
  refine ⟨?_, ?_, ?_, ?_, ?_, ?_, ?_⟩
  · have h1 := h.cntE
    have h2 := cnt_upd F x d hF (by omega) G hx
    simp
    omega
  · intro y hy
    rcases List.mem_append.1 hy with hy | hy
    · exact h.inO y hy
    · exact ⟨x, hx, by simpa using hy⟩
  · intro y hy
    by_cases e : y = x
    · subst e
      rw [upd_at]
      exact ⟨fun _ => by omega, fun _ => by simp⟩
    · rw [upd_ne _ _ _ _ e, ← h.memF y hy]
      simp
      omega
  · intro y hy
    by_cases e : y = x
    · subst e
      rw [upd_at]
      exact fun _ => ⟨hd, Int.le_refl _⟩
    · rw [upd_ne _ _ _ _ e]
      exact h.rng y hy
  · rw [List.pairwise_append]
    refine ⟨?_, by simp, ?_⟩
    · exact List.Pairwise.imp_of_mem (fun {a b} ha hb hab => by rw [old a ha, old b hb]; exact hab) h.srt
    · intro a ha b hb
      have hb' : b = (x : Int) := by simpa using hb
      subst hb'
      rw [old a ha, Int.toNat_natCast, upd_at]
      obtain ⟨z, hz, rfl⟩ := h.inO a ha
      rw [Int.toNat_natCast]
      exact (h.rng z hz ((h.memF z hz).1 ha)).2
  · intro y hy
    by_cases e : y = x
    · subst e
      rw [upd_at]
      exact fun _ => hw
    · rw [upd_ne _ _ _ _ e]
      exact h.snd y hy
  · intro j hj
    by_cases e : j < O.length
    · rw [getD_append_left e, old _ (getD_mem e)]
      exact h.lvl j e
    · have ej : j = O.length := by simp at hj; omega
      subst ej
      have : (O ++ [(x : Int)]).getD O.length 0 = x := by simp
      rw [this, Int.toNat_natCast, upd_at]
      exact hdl

/-- What is met stays as it is; order is only added to. -/
structure Ext (G : Nat) (F F' : Nat → Int) (O O' : List Int) : Prop where
  keep : ∀ x, F x ≠ -1 → F' x = F x
  ord : ∃ r, O' = O ++ r

theorem Ext.refl (G : Nat) (F : Nat → Int) (O : List Int) : Ext G F F O O := ⟨fun _ _ => rfl, [], by simp⟩

theorem Ext.add {G : Nat} {F F' : Nat → Int} {O O' : List Int} (h : Ext G F F' O O') {x : Nat} {d : Int} (hF : F' x = -1) : Ext G F (sc_upd F' x d) O (O' ++ [(x : Int)]) := by
  refine ⟨fun y hy => ?_, ?_⟩
  · have := h.keep y hy
    rw [upd_ne _ _ _ _ (fun e => by subst e; rw [hF] at this; exact hy this.symm)]
    exact this
  · obtain ⟨r, rfl⟩ := h.ord
    exact ⟨r ++ [(x : Int)], by simp⟩

/-- All that meetTo does, of a list of nodes to which one comes by d goings. -/
theorem meetTo_all {G : Nat} {P : Nat → Prop} {E : Nat → Nat → Prop} {d : Int} {F0 : Nat → Int} {O0 : List Int} (h : Inv G P E d F0 O0) (hd : 0 ≤ d) (hdl : d ≤ O0.length) (Z : Nat → Int) :
    ∀ k, (∀ i, i < k → 0 ≤ Z i ∧ Z i < G ∧ Wk P E d.toNat (Z i).toNat) → ∀ F O, (F, O) = meetTo d Z k (F0, O0) → Inv G P E d F O ∧ Ext G F0 F O0 O ∧ ∀ i, i < k → F (Z i).toNat ≠ -1
  | 0, _, F, O, e => by
    simp only [meetTo, Prod.mk.injEq] at e
    obtain ⟨rfl, rfl⟩ := e
    exact ⟨h, Ext.refl _ _ _, fun i hi => by omega⟩
  | k + 1, hz, F, O, e => by
    obtain ⟨I, X, M⟩ := meetTo_all h hd hdl Z k (fun i hi => hz i (by omega)) (meetTo d Z k (F0, O0)).1 (meetTo d Z k (F0, O0)).2 rfl
    obtain ⟨z0, z1, zw⟩ := hz k (by omega)
    have e' : (F, O) = mstep d (Z k).toNat (meetTo d Z k (F0, O0)) := e
    by_cases hF : (meetTo d Z k (F0, O0)).1 (Z k).toNat = -1
    · rw [mstep, if_pos hF] at e'
      simp only [Prod.mk.injEq] at e'
      obtain ⟨rfl, rfl⟩ := e'
      refine ⟨I.add (by omega) hd (by obtain ⟨r, hr⟩ := X.ord; rw [hr]; simp; omega) hF zw, X.add hF, fun i hi => ?_⟩
      by_cases ei : (Z i).toNat = (Z k).toNat
      · rw [ei, upd_at]; omega
      · rw [upd_ne _ _ _ _ ei]
        by_cases hik : i = k
        · subst hik; exact absurd rfl ei
        · exact M i (by omega)
    · rw [mstep, if_neg hF] at e'
      rw [← e'] at I X M hF
      refine ⟨I, X, fun i hi => ?_⟩
      by_cases hik : i = k
      · subst hik; exact hF
      · exact M i (by omega)

/-- What holds at the head of the loop over order, at its i-th node. -/
structure Head (G : Nat) (P : Nat → Prop) (E : Nat → Nat → Prop) (i : Nat) (F : Nat → Int) (O : List Int) : Prop where
  inv : ∃ D : Int, Inv G P E D F O ∧ 0 ≤ D ∧ D ≤ i ∧ (i < O.length → D ≤ F (O.getD i 0).toNat + 1)
  le : i ≤ O.length
  src : ∀ x, P x → x < G → F x = 0
  shut : ∀ j, j < i → ∀ y, E (O.getD j 0).toNat y → y < G → F y ≠ -1 ∧ F y ≤ F (O.getD j 0).toNat + 1

/-- At the node x, at index i. -/
theorem Head.node {G : Nat} {P : Nat → Prop} {E : Nat → Nat → Prop} {i : Nat} {F : Nat → Int} {O : List Int} (h : Head G P E i F O) (hi : i < O.length) :
    ∃ x : Nat, x < G ∧ O.getD i 0 = (x : Int) ∧ 0 ≤ F x ∧ F x ≤ i ∧ Inv G P E (F x + 1) F O ∧ Wk P E (F x).toNat x := by
  obtain ⟨D, hI, h0, hD, hDi⟩ := h.inv
  obtain ⟨x, hx, e⟩ := hI.inO _ (getD_mem hi)
  have hm : (x : Int) ∈ O := by rw [← e]; exact getD_mem hi
  have hF := (hI.memF x hx).1 hm
  have hr := hI.rng x hx hF
  have hDi := hDi hi
  rw [e, Int.toNat_natCast] at hDi
  exact ⟨x, hx, e, hr.1, by omega, hI.mono hDi, hI.snd x hx hF⟩

theorem Head.next {G : Nat} {P : Nat → Prop} {E : Nat → Nat → Prop} {i : Nat} {F F' : Nat → Int} {O O' : List Int} {x n : Nat} {Z : Nat → Int} (h : Head G P E i F O) (hi : i < O.length) (hx : x < G) (e : O.getD i 0 = (x : Int))
    (hZ : ∀ k, k < n → 0 ≤ Z k ∧ Z k < G ∧ E x (Z k).toNat) (hE : ∀ y, E x y → y < G → ∃ k, k < n ∧ (Z k).toNat = y) (hs : (F', O') = meetTo (F x + 1) Z n (F, O)) : Head G P E (i + 1) F' O' := by
  obtain ⟨x', hx', e', h0, hle, hI, hw⟩ := h.node hi
  have hxx : x' = x := by rw [e'] at e; omega
  subst hxx
  have hwk : ∀ k, k < n → 0 ≤ Z k ∧ Z k < G ∧ Wk P E (F x' + 1).toNat (Z k).toNat := fun k hk => by
    obtain ⟨z0, z1, z2⟩ := hZ k hk
    refine ⟨z0, z1, ?_⟩
    have : (F x' + 1).toNat = (F x').toNat + 1 := by omega
    rw [this]
    exact ⟨x', hw, z2⟩
  obtain ⟨I, X, M⟩ := meetTo_all hI (by omega) (by omega) Z n hwk F' O' hs
  obtain ⟨r, hr⟩ := X.ord
  have hlen : O.length ≤ O'.length := by rw [hr]; simp
  have hget : ∀ j, j < O.length → O'.getD j 0 = O.getD j 0 := fun j hj => by rw [hr]; exact getD_append_left hj
  have hmet : ∀ j, j < O.length → F' (O.getD j 0).toNat = F (O.getD j 0).toNat := fun j hj => by
    obtain ⟨z, hz, ez⟩ := hI.inO _ (getD_mem hj)
    rw [ez, Int.toNat_natCast]
    refine X.keep z ((hI.memF z hz).1 ?_)
    rw [← ez]
    exact getD_mem hj
  have hFx : F' x' = F x' := X.keep x' (by omega)
  refine ⟨⟨F x' + 1, I, by omega, by omega, fun hlt => ?_⟩, by omega, fun y hy hyG => ?_, fun j hj y hy hyG => ?_⟩
  · have hp := List.pairwise_iff_getElem.1 I.srt i (i + 1) (by omega) hlt (by omega)
    have e1 : O'[i] = O'.getD i 0 := by rw [List.getD_eq_getElem?_getD, List.getElem?_eq_getElem (by omega)]; rfl
    have e2 : O'[i + 1] = O'.getD (i + 1) 0 := by rw [List.getD_eq_getElem?_getD, List.getElem?_eq_getElem hlt]; rfl
    rw [e1, e2, hget i hi, e', Int.toNat_natCast, hFx] at hp
    omega
  · rw [X.keep y (by rw [h.src y hy hyG]; omega)]
    exact h.src y hy hyG
  · by_cases ej : j = i
    · subst ej
      rw [hget j hi, e', Int.toNat_natCast] at hy ⊢
      obtain ⟨k, hk, rfl⟩ := hE y hy hyG
      have hne := M k hk
      exact ⟨hne, by rw [hFx]; exact (I.rng _ hyG hne).2⟩
    · have hjl : j < O.length := by omega
      rw [hget j hjl] at hy ⊢
      obtain ⟨h1, h2⟩ := h.shut j (by omega) y hy hyG
      rw [X.keep y h1, hmet j hjl]
      exact ⟨h1, h2⟩

/-- What distances answers. -/
structure Dist (G : Nat) (P : Nat → Prop) (E : Nat → Nat → Prop) (F : Nat → Int) (O : List Int) : Prop where
  len : O.length ≤ G
  inO : ∀ y ∈ O, ∃ x : Nat, x < G ∧ y = (x : Int)
  memF : ∀ x, x < G → ((x : Int) ∈ O ↔ F x ≠ -1)
  rng : ∀ x, x < G → F x ≠ -1 → 0 ≤ F x ∧ F x < G
  srt : O.Pairwise (fun a b => F a.toNat ≤ F b.toNat)
  snd : ∀ x, x < G → F x ≠ -1 → Wk P E (F x).toNat x
  all : ∀ k x, x < G → Wk P E k x → F x ≠ -1 ∧ F x ≤ k

theorem Head.all {G : Nat} {P : Nat → Prop} {E : Nat → Nat → Prop} {i : Nat} {F : Nat → Int} {O : List Int} (h : Head G P E i F O) (hi : ¬ i < O.length) (hE : ∀ x y, E x y → x < G) :
    ∀ k x, x < G → Wk P E k x → F x ≠ -1 ∧ F x ≤ k
  | 0, x, hx, hw => by rw [h.src x hw hx]; omega
  | k + 1, x, hx, hw => by
    obtain ⟨y, hwy, hyx⟩ := hw
    have hy := hE y x hyx
    obtain ⟨h1, h2⟩ := Head.all h hi hE k y hy hwy
    obtain ⟨D, hI, _⟩ := h.inv
    obtain ⟨j, hj, ej⟩ := List.getElem_of_mem ((hI.memF y hy).2 h1)
    have ej' : O.getD j 0 = (y : Int) := by rw [List.getD_eq_getElem?_getD, List.getElem?_eq_getElem hj, ej]; rfl
    have := h.shut j (by omega) x (by rw [ej', Int.toNat_natCast]; exact hyx) hx
    rw [ej', Int.toNat_natCast] at this
    exact ⟨this.1, by omega⟩

theorem Head.dist {G : Nat} {P : Nat → Prop} {E : Nat → Nat → Prop} {i : Nat} {F : Nat → Int} {O : List Int} (h : Head G P E i F O) (hi : ¬ i < O.length) (hE : ∀ x y, E x y → x < G) : Dist G P E F O := by
  obtain ⟨D, hI, h0, hD, _⟩ := h.inv
  have hl := hI.len
  have hle := h.le
  exact ⟨hl, hI.inO, hI.memF, fun x hx hF => ⟨(hI.rng x hx hF).1, by
    obtain ⟨j, hj, ej⟩ := List.getElem_of_mem ((hI.memF x hx).2 hF)
    have ej' : O.getD j 0 = (x : Int) := by rw [List.getD_eq_getElem?_getD, List.getElem?_eq_getElem hj, ej]; rfl
    have := hI.lvl j hj
    rw [ej', Int.toNat_natCast] at this
    omega⟩, hI.srt, hI.snd, h.all hi hE⟩

theorem Head.len {G : Nat} {P : Nat → Prop} {E : Nat → Nat → Prop} {i : Nat} {F : Nat → Int} {O : List Int} (h : Head G P E i F O) : O.length ≤ G := by
  obtain ⟨D, hI, _⟩ := h.inv
  exact hI.len

theorem inv_start (G : Nat) (P : Nat → Prop) (E : Nat → Nat → Prop) : Inv G P E 0 (fun _ => -1) [] := by
  have h0 : ∀ m, cnt (fun _ => -1) m = m := by
    intro m
    induction m with
    | zero => rfl
    | succ m ih => simp [cnt, ih]
  exact ⟨by simp [h0], by simp, fun x _ => by simp, fun x _ hh => absurd rfl hh, List.Pairwise.nil, fun x _ hh => absurd rfl hh, fun j hj => by cases hj⟩

theorem Head.start {G : Nat} {P : Nat → Prop} {E : Nat → Nat → Prop} {F : Nat → Int} {O : List Int} {n : Nat} {Z : Nat → Int} (hZ : ∀ k, k < n → 0 ≤ Z k ∧ Z k < G ∧ P (Z k).toNat) (hP : ∀ x, P x → x < G → ∃ k, k < n ∧ (Z k).toNat = x)
    (hs : (F, O) = meetTo 0 Z n (fun _ => -1, [])) : Head G P E 0 F O := by
  have I0 : Inv G P E 0 (fun _ => -1) [] := inv_start G P E
  obtain ⟨I, X, M⟩ := meetTo_all I0 (Int.le_refl _) (Int.le_refl _) Z n (fun k hk => ⟨(hZ k hk).1, (hZ k hk).2.1, (hZ k hk).2.2⟩) F O hs
  refine ⟨⟨0, I, Int.le_refl _, Int.le_refl _, fun hi => ?_⟩, Nat.zero_le _, fun x hx hxG => ?_, fun j hj => by omega⟩
  · obtain ⟨x, hx, e⟩ := I.inO _ (getD_mem hi)
    rw [e, Int.toNat_natCast]
    have := I.rng x hx ((I.memF x hx).1 (by rw [← e]; exact getD_mem hi))
    omega
  · obtain ⟨k, hk, rfl⟩ := hP x hx hxG
    have := I.rng _ hxG (M k hk)
    omega

end Go.Proofs.Ytgahdclbaifcbaa

namespace Go.Proofs.Ytgahdclbaifcbaa

/-- The least number of a list of which p holds; -1 if there is none. -/
def best (p : Nat → Bool) (Y : Nat → Int) : Nat → Int
  | 0 => -1
  | k + 1 => if p (Y k).toNat = true ∧ (best p Y k = -1 ∨ Y k < best p Y k) then Y k else best p Y k

theorem best_congr {p q : Nat → Bool} {Y : Nat → Int} : ∀ n, (∀ i, i < n → p (Y i).toNat = q (Y i).toNat) → best p Y n = best q Y n
  | 0, _ => rfl
  | n + 1, h => by
    simp only [best]
    rw [best_congr n (fun i hi => h i (by omega)), h n (by omega)]

theorem best_none {p : Nat → Bool} {Y : Nat → Int} : ∀ n, (∀ i, i < n → 0 ≤ Y i) → best p Y n = -1 → ∀ i, i < n → p (Y i).toNat = false
  | 0, _, _, i, hi => by omega
  | n + 1, h0, h, i, hi => by
    simp only [best] at h
    have hn := h0 n (by omega)
    split at h
    · omega
    · rename_i hc
      by_cases e : i = n
      · subst e
        cases hp : p (Y i).toNat
        · rfl
        · exact absurd ⟨hp, Or.inl h⟩ hc
      · exact best_none n (fun i hi => h0 i (by omega)) h i (by omega)

theorem best_some {p : Nat → Bool} {Y : Nat → Int} : ∀ n, best p Y n ≠ -1 → ∃ i, i < n ∧ best p Y n = Y i ∧ p (Y i).toNat = true
  | 0, h => absurd rfl h
  | n + 1, h => by
    simp only [best] at h ⊢
    split at h
    · rename_i hc
      rw [if_pos hc]
      exact ⟨n, by omega, rfl, hc.1⟩
    · rename_i hc
      rw [if_neg hc]
      obtain ⟨i, hi, e, hp⟩ := best_some n h
      exact ⟨i, by omega, e, hp⟩

/-- There is a way of k goings from x to a target. -/
def Bk (T : Nat → Bool) (E : Nat → Nat → Prop) : Nat → Nat → Prop
  | 0, x => T x = true
  | k + 1, x => ∃ y, E x y ∧ Bk T E k y

def Mn (T : Nat → Bool) (E : Nat → Nat → Prop) (k x : Nat) : Prop := Bk T E k x ∧ ∀ j, j < k → ¬ Bk T E j x

theorem Mn.uniq {T : Nat → Bool} {E : Nat → Nat → Prop} {k j x : Nat} (h : Mn T E k x) (h' : Mn T E j x) : k = j := by
  by_cases h1 : k < j
  · exact absurd h.1 (h'.2 k h1)
  · by_cases h2 : j < k
    · exact absurd h'.1 (h.2 j h2)
    · omega

/-- How far the next target is, and 1, as far as r; 0: further. -/
def lev (L : Nat → Nat) (Z : Nat → Nat → Int) (T : Nat → Bool) : Nat → Nat → Int
  | 0, x => if T x = true then 1 else 0
  | r + 1, x => if lev L Z T r x = 0 ∧ ∃ i, i < L x ∧ lev L Z T r (Z x i).toNat = (r : Int) + 1 then (r : Int) + 2 else lev L Z T r x

section
variable {G : Nat} {L : Nat → Nat} {Z : Nat → Nat → Int} {T : Nat → Bool}

/-- One may go from x to y, both of them nodes. -/
def Ego (G : Nat) (L : Nat → Nat) (Z : Nat → Nat → Int) (x y : Nat) : Prop := x < G ∧ ∃ i, i < L x ∧ Z x i = (y : Int)

theorem lev_all (hZ : ∀ x, x < G → ∀ i, i < L x → 0 ≤ Z x i ∧ Z x i < G) : ∀ r x, x < G →
    (∃ k, k ≤ r ∧ Mn T (Ego G L Z) k x ∧ lev L Z T r x = (k : Int) + 1) ∨ ((∀ k, k ≤ r → ¬ Bk T (Ego G L Z) k x) ∧ lev L Z T r x = 0)
  | 0, x, hx => by
    by_cases h : T x = true
    · exact Or.inl ⟨0, Nat.le_refl _, ⟨h, fun j hj => by omega⟩, by simp [lev, h]⟩
    · refine Or.inr ⟨fun k hk hb => ?_, by simp [lev, h]⟩
      obtain rfl : k = 0 := by omega
      exact h hb
  | r + 1, x, hx => by
    rcases lev_all hZ r x hx with ⟨k, hk, hm, hl⟩ | ⟨hno, hl⟩
    · refine Or.inl ⟨k, by omega, hm, ?_⟩
      simp only [lev]
      rw [if_neg (fun hh => by rw [hl] at hh; omega)]
      exact hl
    · simp only [lev]
      by_cases hex : ∃ i, i < L x ∧ lev L Z T r (Z x i).toNat = (r : Int) + 1
      · rw [if_pos ⟨hl, hex⟩]
        obtain ⟨i, hi, hi2⟩ := hex
        have hz := hZ x hx i hi
        refine Or.inl ⟨r + 1, Nat.le_refl _, ⟨?_, fun j hj => hno j (by omega)⟩, by omega⟩
        rcases lev_all hZ r (Z x i).toNat (by omega) with ⟨k, hk, hm, hl2⟩ | ⟨_, hl2⟩
        · have : k = r := by omega
          subst this
          exact ⟨(Z x i).toNat, ⟨hx, i, hi, by omega⟩, hm.1⟩
        · omega
      · rw [if_neg (fun hh => hex hh.2)]
        refine Or.inr ⟨fun k hk hb => ?_, hl⟩
        by_cases e : k ≤ r
        · exact hno k e hb
        · obtain rfl : k = r + 1 := by omega
          obtain ⟨y, ⟨_, i, hi, hy⟩, hb2⟩ := hb
          have hz := hZ x hx i hi
          have hyy : (Z x i).toNat = y := by omega
          rcases lev_all hZ r y (by omega) with ⟨j, hj, hm, hl2⟩ | ⟨hno2, _⟩
          · by_cases ej : j = r
            · subst ej
              exact hex ⟨i, hi, by rw [hyy]; exact hl2⟩
            · exact hno (j + 1) (by omega) ⟨y, ⟨hx, i, hi, hy⟩, hm.1⟩
          · exact hno2 r (Nat.le_refl _) hb2

theorem lev_iff (hZ : ∀ x, x < G → ∀ i, i < L x → 0 ≤ Z x i ∧ Z x i < G) {r k x : Nat} (hx : x < G) (hk : k ≤ r) : lev L Z T r x = (k : Int) + 1 ↔ Mn T (Ego G L Z) k x := by
  rcases lev_all (T := T) hZ r x hx with ⟨j, hj, hm, hl⟩ | ⟨hno, hl⟩
  · constructor
    · intro h
      have : j = k := by omega
      rw [← this]
      exact hm
    · intro h
      rw [hl, h.uniq hm]
  · constructor
    · intro h; omega
    · intro h
      exact absurd h.1 (hno k hk)

/-- From a node of a way of so many goings on to a target: that one is not further than both. -/
theorem wk_bk {P : Nat → Prop} : ∀ {k m x}, Wk P (Ego G L Z) k x → Bk T (Ego G L Z) m x → x < G → (∀ x, x < G → ∀ i, i < L x → 0 ≤ Z x i ∧ Z x i < G) → ∃ t, t < G ∧ T t = true ∧ Wk P (Ego G L Z) (k + m) t
  | k, 0, x, hw, hb, hx, _ => ⟨x, hx, hb, hw⟩
  | k, m + 1, x, hw, ⟨y, hxy, hb⟩, hx, hZ => by
    have hy : y < G := by
      obtain ⟨_, i, hi, e⟩ := hxy
      have := hZ x hx i hi
      omega
    obtain ⟨t, ht, hT, hwt⟩ := wk_bk (k := k + 1) ⟨x, hw, hxy⟩ hb hy hZ
    exact ⟨t, ht, hT, by rw [show k + (m + 1) = k + 1 + m from by omega]; exact hwt⟩

/-- The other way: from a target back. -/
theorem bk_of_wk {P : Nat → Prop} : ∀ {k m t}, Wk P (Ego G L Z) k t → Bk T (Ego G L Z) m t → ∃ x, P x ∧ Bk T (Ego G L Z) (k + m) x
  | 0, m, t, hw, hb => ⟨t, hw, by rw [Nat.zero_add]; exact hb⟩
  | k + 1, m, t, ⟨y, hw, hyt⟩, hb => by
    obtain ⟨x, hx, hbx⟩ := bk_of_wk (m := m + 1) hw ⟨t, hyt, hb⟩
    exact ⟨x, hx, by rw [show k + 1 + m = k + (m + 1) from by omega]; exact hbx⟩

/-- The nodes of the way: the d-th one, by the predicates of each step. -/
def nd (L : Nat → Nat) (Z : Nat → Nat → Int) (n : Nat) (Y : Nat → Int) (p : Nat → Nat → Bool) : Nat → Int
  | 0 => best (p 0) Y n
  | d + 1 => best (p (d + 1)) (Z (nd L Z n Y p d).toNat) (L (nd L Z n Y p d).toNat)

/-- By how far the next target is. -/
def byLev (G : Nat) (L : Nat → Nat) (Z : Nat → Nat → Int) (T : Nat → Bool) (len d x : Nat) : Bool := decide (lev L Z T G x = (len : Int) + 1 - d)
/-- By what leads on, and how far it is from the beginning. -/
def byFar (G : Nat) (L : Nat → Nat) (Z : Nat → Nat → Int) (T : Nat → Bool) (F : Nat → Int) (len d x : Nat) : Bool := decide (F x ≤ len ∧ lev L Z T G x = (len : Int) + 1 - F x) && decide (F x = d)

/-- What is known of the beginning and the nearest target. -/
structure Near (G : Nat) (L : Nat → Nat) (Z : Nat → Nat → Int) (T : Nat → Bool) (n : Nat) (Y : Nat → Int) (F : Nat → Int) (len : Nat) : Prop where
  hZ : ∀ x, x < G → ∀ i, i < L x → 0 ≤ Z x i ∧ Z x i < G
  hY : ∀ i, i < n → 0 ≤ Y i ∧ Y i < G
  snd : ∀ x, x < G → F x ≠ -1 → 0 ≤ F x ∧ F x < G ∧ Wk (fun x => ∃ i, i < n ∧ Y i = (x : Int)) (Ego G L Z) (F x).toNat x
  all : ∀ k x, x < G → Wk (fun x => ∃ i, i < n ∧ Y i = (x : Int)) (Ego G L Z) k x → F x ≠ -1 ∧ F x ≤ k
  tgt : ∃ t, t < G ∧ T t = true ∧ F t = len
  min : ∀ t, t < G → T t = true → F t ≠ -1 → (len : Int) ≤ F t

variable {n : Nat} {Y : Nat → Int} {F : Nat → Int} {len : Nat}

theorem Near.lenG (h : Near G L Z T n Y F len) : len < G := by
  obtain ⟨t, ht, _, e⟩ := h.tgt
  have := (h.snd t ht (by omega)).2.1
  omega

/-- No target is nearer. -/
theorem Near.far (h : Near G L Z T n Y F len) {x m : Nat} (hx : x < G) (hF : F x ≠ -1) (hb : Bk T (Ego G L Z) m x) : (len : Int) ≤ F x + m := by
  obtain ⟨h0, _, hw⟩ := h.snd x hx hF
  obtain ⟨t, ht, hT, hwt⟩ := wk_bk hw hb hx h.hZ
  obtain ⟨h1, h2⟩ := h.all _ t ht hwt
  have := h.min t ht hT h1
  omega

theorem Near.step (h : Near G L Z T n Y F len) {x y : Nat} (hx : x < G) (hF : F x ≠ -1) (hxy : Ego G L Z x y) : y < G ∧ F y ≠ -1 ∧ F y ≤ F x + 1 := by
  obtain ⟨h0, _, hw⟩ := h.snd x hx hF
  have hy : y < G := by
    obtain ⟨_, i, hi, e⟩ := hxy
    have := h.hZ x hx i hi
    omega
  obtain ⟨h1, h2⟩ := h.all ((F x).toNat + 1) y hy ⟨x, hw, hxy⟩
  exact ⟨hy, h1, by omega⟩

/-- Of a node whose distance is F x: it stands on a shortest way just if the next target is as far as is left. -/
theorem Near.on (h : Near G L Z T n Y F len) {x : Nat} (hx : x < G) (hF : F x ≠ -1) {m : Nat} (hm : F x + m = len) : lev L Z T G x = (m : Int) + 1 ↔ Bk T (Ego G L Z) m x := by
  have hl := h.lenG
  have h0 := (h.snd x hx hF).1
  rw [lev_iff h.hZ hx (by omega)]
  constructor
  · exact fun hh => hh.1
  · intro hb
    refine ⟨hb, fun j hj hbj => ?_⟩
    have := h.far hx hF hbj
    omega

/-- The nodes of the way, by either: they are the same, and as far as they should be. -/
theorem Near.nodes (h : Near G L Z T n Y F len) : ∀ d, d ≤ len →
    nd L Z n Y (byFar G L Z T F len) d = nd L Z n Y (byLev G L Z T len) d ∧ ∃ x : Nat, nd L Z n Y (byLev G L Z T len) d = (x : Int) ∧ x < G ∧ F x = d ∧ lev L Z T G x = (len : Int) + 1 - d
  | 0, _ => by
    have hl := h.lenG
    have hY0 : ∀ i, i < n → F (Y i).toNat = 0 := fun i hi => by
      have := h.hY i hi
      obtain ⟨h1, h2⟩ := h.all 0 (Y i).toNat (by omega) ⟨i, hi, by omega⟩
      have := (h.snd (Y i).toNat (by omega) h1).1
      omega
    have e : nd L Z n Y (byFar G L Z T F len) 0 = nd L Z n Y (byLev G L Z T len) 0 := by
      refine best_congr n (fun i hi => ?_)
      unfold byFar byLev
      rw [hY0 i hi]
      have : (0 : Int) ≤ (len : Int) := by omega
      simp [this]
    refine ⟨e, ?_⟩
    have hne : best (byLev G L Z T len 0) Y n ≠ -1 := fun hb => by
      have hno := best_none n (fun i hi => (h.hY i hi).1) hb
      obtain ⟨t, ht, hT, hFt⟩ := h.tgt
      obtain ⟨_, _, hw⟩ := h.snd t ht (by omega)
      obtain ⟨x, ⟨i, hi, hxi⟩, hbx⟩ := bk_of_wk (T := T) (m := 0) hw hT
      have hx := h.hY i hi
      have hFx := hY0 i hi
      have hxx : (Y i).toNat = x := by omega
      have := hno i hi
      unfold byLev at this
      rw [decide_eq_false_iff_not] at this
      refine this ?_
      rw [hxx] at hFx ⊢
      have e2 := (h.on (x := x) (by omega) (by omega) (m := len) (by omega)).2 (by rw [show len = (F t).toNat + 0 from by omega]; exact hbx)
      rw [e2]
      omega
    obtain ⟨i, hi, e1, hp⟩ := best_some n hne
    have hyi := h.hY i hi
    unfold byLev at hp
    rw [decide_eq_true_eq] at hp
    exact ⟨(Y i).toNat, by show best _ Y n = _; rw [e1]; omega, by omega, by rw [hY0 i hi]; rfl, hp⟩
  | d + 1, hd => by
    have hl := h.lenG
    obtain ⟨e, x, ex, hx, hFx, hlx⟩ := Near.nodes h d (by omega)
    have hFn : F x ≠ -1 := by omega
    have hbx := (h.on hx hFn (m := len - d) (by omega)).1 (by rw [hlx]; omega)
    have agree : ∀ i, i < L x → byFar G L Z T F len (d + 1) (Z x i).toNat = byLev G L Z T len (d + 1) (Z x i).toNat := fun i hi => by
      have hz := h.hZ x hx i hi
      obtain ⟨hy, hFy, hFy2⟩ := h.step hx hFn ⟨hx, i, hi, show Z x i = ((Z x i).toNat : Int) by omega⟩
      have hr := (h.snd _ hy hFy).1
      rw [Bool.eq_iff_iff]
      unfold byFar byLev
      simp only [Bool.and_eq_true, decide_eq_true_eq]
      constructor
      · rintro ⟨⟨h1, h2⟩, h3⟩
        rw [h3] at h2
        exact h2
      · intro h1
        have hm := (lev_iff (r := G) h.hZ hy (k := len - (d + 1)) (by omega)).1 (by rw [h1]; omega)
        have := h.far hy hFy hm.1
        have hFe : F (Z x i).toNat = ((d + 1 : Nat) : Int) := by omega
        exact ⟨⟨by omega, by rw [hFe]; exact h1⟩, hFe⟩
    have e' : nd L Z n Y (byFar G L Z T F len) (d + 1) = nd L Z n Y (byLev G L Z T len) (d + 1) := by
      show best _ (Z (nd L Z n Y (byFar G L Z T F len) d).toNat) (L (nd L Z n Y (byFar G L Z T F len) d).toNat) = best _ (Z (nd L Z n Y (byLev G L Z T len) d).toNat) (L (nd L Z n Y (byLev G L Z T len) d).toNat)
      rw [e, ex, Int.toNat_natCast]
      exact best_congr (L x) agree
    refine ⟨e', ?_⟩
    have hne : best (byLev G L Z T len (d + 1)) (Z x) (L x) ≠ -1 := fun hb => by
      have hno := best_none (L x) (fun i hi => (h.hZ x hx i hi).1) hb
      have hbx' : Bk T (Ego G L Z) ((len - (d + 1)) + 1) x := by rw [show len - (d + 1) + 1 = len - d from by omega]; exact hbx
      obtain ⟨y, hxy, hby⟩ := hbx'
      obtain ⟨hy, hFy, hFy2⟩ := h.step hx hFn hxy
      obtain ⟨_, i, hi, ei⟩ := hxy
      have hyy : (Z x i).toNat = y := by omega
      have hfar := h.far hy hFy hby
      have hFe : F y = ((d + 1 : Nat) : Int) := by omega
      have hly := (h.on hy hFy (m := len - (d + 1)) (by omega)).2 hby
      have := hno i hi
      unfold byLev at this
      rw [decide_eq_false_iff_not, hyy] at this
      exact this (by rw [hly]; omega)
    obtain ⟨i, hi, e1, hp⟩ := best_some (L x) hne
    have hz := h.hZ x hx i hi
    have hFy : F (Z x i).toNat = ((d + 1 : Nat) : Int) := by
      rw [← agree i hi] at hp
      unfold byFar at hp
      simp only [Bool.and_eq_true, decide_eq_true_eq] at hp
      exact hp.2
    unfold byLev at hp
    rw [decide_eq_true_eq] at hp
    refine ⟨(Z x i).toNat, ?_, by omega, hFy, hp⟩
    show best _ (Z (nd L Z n Y (byLev G L Z T len) d).toNat) (L (nd L Z n Y (byLev G L Z T len) d).toNat) = _
    rw [ex, Int.toNat_natCast, e1]
    omega

end
end Go.Proofs.Ytgahdclbaifcbaa

namespace Go.Proofs.Ytgahdclbaifcbaa

/-- One comes from a to b. -/
def Rch (E : Nat → Nat → Prop) (a b : Nat) : Prop := ∃ k, Wk (fun x => x = a) E k b
def Mut (E : Nat → Nat → Prop) (a b : Nat) : Prop := Rch E a b ∧ Rch E b a

section
variable {E : Nat → Nat → Prop}
theorem Rch.refl (a : Nat) : Rch E a a := ⟨0, rfl⟩
theorem Rch.on {a b c : Nat} (h : Rch E a b) (e : E b c) : Rch E a c := by obtain ⟨k, hk⟩ := h; exact ⟨k + 1, b, hk, e⟩
theorem Rch.trans {a b c : Nat} (h : Rch E a b) (h' : Rch E b c) : Rch E a c := by
  obtain ⟨k, hk⟩ := h'
  have : ∀ k c, Wk (fun x => x = b) E k c → Rch E a c := by
    intro k
    induction k with
    | zero => intro c hc; have : c = b := hc; subst this; exact h
    | succ k ih =>
      intro c hc
      obtain ⟨y, hy, e⟩ := hc
      exact (ih y hy).on e
  exact this k c hk
theorem Rch.edge {a b : Nat} (e : E a b) : Rch E a b := (Rch.refl a).on e
/-- What goings never leave, no way leaves. -/
theorem Rch.stay {P : Nat → Prop} (hP : ∀ x y, P x → E x y → P y) {a b : Nat} (h : Rch E a b) (ha : P a) : P b := by
  obtain ⟨k, hk⟩ := h
  have : ∀ k b, Wk (fun x => x = a) E k b → P b := by
    intro k
    induction k with
    | zero => intro b hb; have : b = a := hb; subst this; exact ha
    | succ k ih =>
      intro b hb
      obtain ⟨y, hy, e⟩ := hb
      exact hP y b (ih y hy) e
  exact this k b hk
end

structure ScSt where
  met : Nat → Int
  low : Nat → Int
  nxt : Nat → Int
  lst : Nat → Int
  path : List Nat
  opn : List Nat
  cnt : Int

structure Tj (G : Nat) (L : Nat → Nat) (Z : Nat → Nat → Int) (s : ScSt) : Prop where
  hZ : ∀ x, x < G → ∀ i, i < L x → 0 ≤ Z x i ∧ Z x i < G
  pathSub : ∀ a ∈ s.path, a ∈ s.opn
  opnIn : ∀ a ∈ s.opn, a < G
  mem : ∀ x, x < G → (x ∈ s.opn ↔ (s.met x ≠ 0 ∧ s.lst x = -1))
  closedMet : ∀ x, x < G → s.lst x ≠ -1 → s.met x ≠ 0
  metR : ∀ x, x < G → 0 ≤ s.met x ∧ s.met x ≤ s.cnt
  cnt0 : 0 ≤ s.cnt
  opnS : s.opn.Pairwise (fun a b => s.met a < s.met b)
  pathS : s.path.Pairwise (fun a b => s.met a < s.met b ∧ Rch (Ego G L Z) a b)
  nxtR : ∀ x, x < G → 0 ≤ s.nxt x ∧ s.nxt x ≤ L x
  unmet : ∀ x, x < G → s.met x = 0 → s.nxt x = 0
  edges : ∀ x, x < G → s.met x ≠ 0 → ∀ j : Nat, j < L x → (j : Int) < s.nxt x → s.met (Z x j).toNat ≠ 0 ∧ (s.lst x = -1 → s.lst (Z x j).toNat = -1 → s.low x ≤ s.met (Z x j).toNat) ∧ (s.lst x ≠ -1 → s.lst (Z x j).toNat ≠ -1)
  closedN : ∀ x, x < G → s.lst x ≠ -1 → s.nxt x = L x
  lowR : ∀ x, x < G → s.met x ≠ 0 → s.lst x = -1 → 1 ≤ s.low x ∧ s.low x ≤ s.met x ∧ ∃ y, y < G ∧ s.met y = s.low x ∧ s.lst y = -1 ∧ Rch (Ego G L Z) x y
  off : ∀ x, x < G → s.met x ≠ 0 → s.lst x = -1 → x ∉ s.path → s.nxt x = L x ∧ s.low x < s.met x ∧ ∃ p, p ∈ s.path ∧ s.met p < s.met x ∧ s.low p ≤ s.low x ∧ Rch (Ego G L Z) p x ∧ ∀ p' ∈ s.path, s.met p' ≤ s.met x → s.met p' ≤ s.met p
  parts : ∀ x, x < G → s.lst x ≠ -1 → ∃ m : Nat, m < G ∧ s.lst x = (m : Int) ∧ Mut (Ego G L Z) x m ∧ ∀ y, y < G → Mut (Ego G L Z) x y → s.lst y = (m : Int) ∧ m ≤ y

section
variable {G : Nat} {L : Nat → Nat} {Z : Nat → Nat → Int} {s : ScSt}

theorem Tj.pathG (h : Tj G L Z s) {a : Nat} (ha : a ∈ s.path) : a < G := h.opnIn a (h.pathSub a ha)
theorem Tj.isOpen (h : Tj G L Z s) {a : Nat} (ha : a ∈ s.opn) : s.met a ≠ 0 ∧ s.lst a = -1 := (h.mem a (h.opnIn a ha)).1 ha
theorem Tj.zG (h : Tj G L Z s) {x j : Nat} (hx : x < G) (hj : j < L x) : (Z x j).toNat < G := by have := h.hZ x hx j hj; omega
theorem Tj.ego (h : Tj G L Z s) {x j : Nat} (hx : x < G) (hj : j < L x) : Ego G L Z x (Z x j).toNat := ⟨hx, j, hj, by have := h.hZ x hx j hj; omega⟩

theorem Tj.inj (h : Tj G L Z s) {a b : Nat} (ha : a ∈ s.opn) (hb : b ∈ s.opn) (e : s.met a = s.met b) : a = b := by
  obtain ⟨i, hi, rfl⟩ := List.getElem_of_mem ha
  obtain ⟨j, hj, rfl⟩ := List.getElem_of_mem hb
  by_cases h1 : i < j
  · have := List.pairwise_iff_getElem.1 h.opnS i j hi hj h1; omega
  · by_cases h2 : j < i
    · have := List.pairwise_iff_getElem.1 h.opnS j i hj hi h2; omega
    · have : i = j := by omega
      subst this; rfl

/-- A node is met: on top of both lists. -/
def enterS (s : ScSt) (x : Nat) : ScSt := { s with met := sc_upd s.met x (s.cnt + 1), low := sc_upd s.low x (s.cnt + 1), path := s.path ++ [x], opn := s.opn ++ [x], cnt := s.cnt + 1 }

theorem Tj.enter (h : Tj G L Z s) {x : Nat} (hx : x < G) (h0 : s.met x = 0) (hr : ∀ a ∈ s.path, Rch (Ego G L Z) a x) : Tj G L Z (enterS s x) := by
  have hc := h.cnt0
  have hl : s.lst x = -1 := by
    by_cases e : s.lst x = -1
    · exact e
    · exact absurd h0 (h.closedMet x hx e)
  have hxo : x ∉ s.opn := fun hh => (h.isOpen hh).1 h0
  have ne : ∀ a ∈ s.opn, a ≠ x := fun a ha e => hxo (e ▸ ha)
  have mo : ∀ y, y ≠ x → sc_upd s.met x (s.cnt + 1) y = s.met y := fun y hy => upd_ne _ _ _ _ hy
  have lo : ∀ y, y ≠ x → sc_upd s.low x (s.cnt + 1) y = s.low y := fun y hy => upd_ne _ _ _ _ hy
  refine ⟨h.hZ, ?_, ?_, ?_, ?_, ?_, by show 0 ≤ s.cnt + 1; omega, ?_, ?_, h.nxtR, ?_, ?_, h.closedN, ?_, ?_, h.parts⟩
  · intro a ha
    rcases List.mem_append.1 ha with ha | ha
    · exact List.mem_append.2 (Or.inl (h.pathSub a ha))
    · exact List.mem_append.2 (Or.inr ha)
  · intro a ha
    rcases List.mem_append.1 ha with ha | ha
    · exact h.opnIn a ha
    · have : a = x := by simpa using ha
      subst this; exact hx
  · intro y hy
    show y ∈ s.opn ++ [x] ↔ (sc_upd s.met x (s.cnt + 1) y ≠ 0 ∧ s.lst y = -1)
    by_cases e : y = x
    · subst e
      rw [upd_at]
      exact ⟨fun _ => ⟨by omega, hl⟩, fun _ => by simp⟩
    · rw [mo y e, ← h.mem y hy]
      simp [e]
  · intro y hy hly
    show sc_upd s.met x (s.cnt + 1) y ≠ 0
    by_cases e : y = x
    · subst e; rw [upd_at]; omega
    · rw [mo y e]; exact h.closedMet y hy hly
  · intro y hy
    show 0 ≤ sc_upd s.met x (s.cnt + 1) y ∧ sc_upd s.met x (s.cnt + 1) y ≤ s.cnt + 1
    by_cases e : y = x
    · subst e; rw [upd_at]; omega
    · rw [mo y e]; have := h.metR y hy; omega
  · show (s.opn ++ [x]).Pairwise (fun a b => sc_upd s.met x (s.cnt + 1) a < sc_upd s.met x (s.cnt + 1) b)
    rw [List.pairwise_append]
    refine ⟨List.Pairwise.imp_of_mem (fun {a b} ha hb hab => by rw [mo a (ne a ha), mo b (ne b hb)]; exact hab) h.opnS, by simp, fun a ha b hb => ?_⟩
    have : b = x := by simpa using hb
    subst this
    rw [mo a (ne a ha), upd_at]
    have := h.metR a (h.opnIn a ha)
    omega
  · show (s.path ++ [x]).Pairwise (fun a b => sc_upd s.met x (s.cnt + 1) a < sc_upd s.met x (s.cnt + 1) b ∧ Rch (Ego G L Z) a b)
    rw [List.pairwise_append]
    refine ⟨List.Pairwise.imp_of_mem (fun {a b} ha hb hab => by rw [mo a (ne a (h.pathSub a ha)), mo b (ne b (h.pathSub b hb))]; exact hab) h.pathS, by simp, fun a ha b hb => ?_⟩
    have : b = x := by simpa using hb
    subst this
    rw [mo a (ne a (h.pathSub a ha)), upd_at]
    have := h.metR a (h.pathG ha)
    exact ⟨by omega, hr a ha⟩
  · intro y hy hmy
    have hmy' : sc_upd s.met x (s.cnt + 1) y = 0 := hmy
    by_cases e : y = x
    · subst e; rw [upd_at] at hmy'; omega
    · rw [mo y e] at hmy'; exact h.unmet y hy hmy'
  · intro y hy hmy j hj hjn
    show sc_upd s.met x (s.cnt + 1) (Z y j).toNat ≠ 0 ∧ (s.lst y = -1 → s.lst (Z y j).toNat = -1 → sc_upd s.low x (s.cnt + 1) y ≤ sc_upd s.met x (s.cnt + 1) (Z y j).toNat) ∧ (s.lst y ≠ -1 → s.lst (Z y j).toNat ≠ -1)
    by_cases e : y = x
    · subst e
      have := h.unmet y hy h0
      have hjn' : (j : Int) < s.nxt y := hjn
      omega
    · have hmy' : s.met y ≠ 0 := by rw [← mo y e]; exact hmy
      obtain ⟨e1, e2, e3⟩ := h.edges y hy hmy' j hj hjn
      have ez : (Z y j).toNat ≠ x := fun hh => by rw [hh] at e1; exact e1 h0
      rw [mo _ ez, lo y e]
      exact ⟨e1, e2, e3⟩
  · intro y hy hmy hly
    show 1 ≤ sc_upd s.low x (s.cnt + 1) y ∧ sc_upd s.low x (s.cnt + 1) y ≤ sc_upd s.met x (s.cnt + 1) y ∧ ∃ z, z < G ∧ sc_upd s.met x (s.cnt + 1) z = sc_upd s.low x (s.cnt + 1) y ∧ s.lst z = -1 ∧ Rch (Ego G L Z) y z
    by_cases e : y = x
    · subst e
      rw [upd_at, upd_at]
      exact ⟨by omega, Int.le_refl _, y, hy, upd_at _ _ _, hl, Rch.refl _⟩
    · have hmy' : s.met y ≠ 0 := by rw [← mo y e]; exact hmy
      obtain ⟨e1, e2, z, hz, e3, e4, e5⟩ := h.lowR y hy hmy' hly
      rw [mo y e, lo y e]
      exact ⟨e1, e2, z, hz, by rw [mo z (fun hh => by rw [hh, h0] at e3; omega)]; exact e3, e4, e5⟩
  · intro y hy hmy hly hyp
    have hyx : y ≠ x := fun e => hyp (List.mem_append.2 (Or.inr (by simp [e])))
    have hmy' : s.met y ≠ 0 := by rw [← mo y hyx]; exact hmy
    obtain ⟨e1, e2, p, hp, e3, e4, e5, e6⟩ := h.off y hy hmy' hly (fun hh => hyp (List.mem_append.2 (Or.inl hh)))
    have hpx := ne p (h.pathSub p hp)
    show s.nxt y = L y ∧ sc_upd s.low x (s.cnt + 1) y < sc_upd s.met x (s.cnt + 1) y ∧ ∃ p, p ∈ s.path ++ [x] ∧ sc_upd s.met x (s.cnt + 1) p < sc_upd s.met x (s.cnt + 1) y ∧ sc_upd s.low x (s.cnt + 1) p ≤ sc_upd s.low x (s.cnt + 1) y ∧ Rch (Ego G L Z) p y ∧ ∀ p' ∈ s.path ++ [x], sc_upd s.met x (s.cnt + 1) p' ≤ sc_upd s.met x (s.cnt + 1) y → sc_upd s.met x (s.cnt + 1) p' ≤ sc_upd s.met x (s.cnt + 1) p
    rw [mo y hyx, lo y hyx]
    refine ⟨e1, e2, p, List.mem_append.2 (Or.inl hp), by rw [mo p hpx]; exact e3, by rw [lo p hpx]; exact e4, e5, fun p' hp' hle => ?_⟩
    rw [mo p hpx]
    rcases List.mem_append.1 hp' with hp' | hp'
    · rw [mo p' (ne p' (h.pathSub p' hp'))] at hle ⊢
      exact e6 p' hp' hle
    · have : p' = x := by simpa using hp'
      subst this
      rw [upd_at] at hle
      have := h.metR y hy
      omega

/-- One going more of a node's list is done. -/
theorem Tj.bump (h : Tj G L Z s) {n j : Nat} (hn : n ∈ s.path) (hj : j < L n) (hjn : s.nxt n = j) (hm : s.met (Z n j).toNat ≠ 0) (hlow : s.lst (Z n j).toNat = -1 → s.low n ≤ s.met (Z n j).toNat) : Tj G L Z { s with nxt := sc_upd s.nxt n ((j : Int) + 1) } := by
  have hnG := h.pathG hn
  have ho := h.isOpen (h.pathSub n hn)
  have no : ∀ y, y ≠ n → sc_upd s.nxt n ((j : Int) + 1) y = s.nxt y := fun y hy => upd_ne _ _ _ _ hy
  refine ⟨h.hZ, h.pathSub, h.opnIn, h.mem, h.closedMet, h.metR, h.cnt0, h.opnS, h.pathS, ?_, ?_, ?_, ?_, h.lowR, ?_, h.parts⟩
  · intro x hx
    show 0 ≤ sc_upd s.nxt n ((j : Int) + 1) x ∧ sc_upd s.nxt n ((j : Int) + 1) x ≤ L x
    by_cases e : x = n
    · subst e; rw [upd_at]; omega
    · rw [no x e]; exact h.nxtR x hx
  · intro x hx hmx
    show sc_upd s.nxt n ((j : Int) + 1) x = 0
    by_cases e : x = n
    · subst e; exact absurd hmx ho.1
    · rw [no x e]; exact h.unmet x hx hmx
  · intro x hx hmx i hi hin
    have hin' : (i : Int) < sc_upd s.nxt n ((j : Int) + 1) x := hin
    by_cases e : x = n
    · subst e
      rw [upd_at] at hin'
      by_cases ei : i = j
      · subst ei
        exact ⟨hm, fun _ => hlow, fun hh => absurd ho.2 hh⟩
      · exact h.edges x hx hmx i hi (by omega)
    · rw [no x e] at hin'
      exact h.edges x hx hmx i hi hin'
  · intro x hx hlx
    show sc_upd s.nxt n ((j : Int) + 1) x = L x
    by_cases e : x = n
    · subst e; exact absurd ho.2 hlx
    · rw [no x e]; exact h.closedN x hx hlx
  · intro x hx hmx hlx hxp
    have e : x ≠ n := fun e => hxp (e ▸ hn)
    show sc_upd s.nxt n ((j : Int) + 1) x = L x ∧ _
    rw [no x e]
    exact h.off x hx hmx hlx hxp

/-- A node of the path is known to come to an open one. -/
theorem Tj.lower (h : Tj G L Z s) {n : Nat} {v : Int} (hn : n ∈ s.path) (hv : v ≤ s.low n) (hv1 : 1 ≤ v) (hw : ∃ y, y < G ∧ s.met y = v ∧ s.lst y = -1 ∧ Rch (Ego G L Z) n y) : Tj G L Z { s with low := sc_upd s.low n v } := by
  have le : ∀ y, sc_upd s.low n v y ≤ s.low y := fun y => by
    by_cases e : y = n
    · subst e; rw [upd_at]; exact hv
    · rw [upd_ne _ _ _ _ e]; exact Int.le_refl _
  refine ⟨h.hZ, h.pathSub, h.opnIn, h.mem, h.closedMet, h.metR, h.cnt0, h.opnS, h.pathS, h.nxtR, h.unmet, ?_, h.closedN, ?_, ?_, h.parts⟩
  · intro x hx hmx i hi hin
    obtain ⟨e1, e2, e3⟩ := h.edges x hx hmx i hi hin
    exact ⟨e1, fun a b => Int.le_trans (le x) (e2 a b), e3⟩
  · intro x hx hmx hlx
    show 1 ≤ sc_upd s.low n v x ∧ sc_upd s.low n v x ≤ s.met x ∧ ∃ y, y < G ∧ s.met y = sc_upd s.low n v x ∧ s.lst y = -1 ∧ Rch (Ego G L Z) x y
    obtain ⟨e1, e2, e3⟩ := h.lowR x hx hmx hlx
    by_cases e : x = n
    · subst e; rw [upd_at]; exact ⟨hv1, by omega, hw⟩
    · rw [upd_ne _ _ _ _ e]; exact ⟨e1, e2, e3⟩
  · intro x hx hmx hlx hxp
    have e : x ≠ n := fun e => hxp (e ▸ hn)
    obtain ⟨e1, e2, p, hp, e3, e4, e5, e6⟩ := h.off x hx hmx hlx hxp
    show s.nxt x = L x ∧ sc_upd s.low n v x < s.met x ∧ ∃ p, p ∈ s.path ∧ s.met p < s.met x ∧ sc_upd s.low n v p ≤ sc_upd s.low n v x ∧ _
    rw [upd_ne _ _ _ _ e]
    exact ⟨e1, e2, p, hp, e3, Int.le_trans (le p) e4, e5, e6⟩

/-- A node is left that comes to an earlier one: the one before it takes that on. -/
theorem Tj.up (h : Tj G L Z s) {P : List Nat} {b n : Nat} (hp : s.path = (P ++ [b]) ++ [n]) (hnx : s.nxt n = L n) (hlow : s.low n < s.met n) : Tj G L Z { s with path := P ++ [b], low := sc_upd s.low b (min (s.low b) (s.low n)) } := by
  have hn : n ∈ s.path := by rw [hp]; simp
  have hb : b ∈ s.path := by rw [hp]; simp
  have ps := h.pathS
  rw [hp] at ps
  rw [List.pairwise_append] at ps
  obtain ⟨ps1, _, ps2⟩ := ps
  have hbn := ps2 b (by simp) n (by simp)
  have last : ∀ p' ∈ P ++ [b], s.met p' ≤ s.met b := fun p' hp' => by
    rcases List.mem_append.1 hp' with h1 | h1
    · have := (List.pairwise_append.1 ps1).2.2 p' h1 b (by simp); omega
    · have : p' = b := by simpa using h1
      subst this; exact Int.le_refl _
  have ln := h.lowR n (h.pathG hn) (h.isOpen (h.pathSub n hn)).1 (h.isOpen (h.pathSub n hn)).2
  have lb := h.lowR b (h.pathG hb) (h.isOpen (h.pathSub b hb)).1 (h.isOpen (h.pathSub b hb)).2
  have h1 := h.lower (n := b) (v := min (s.low b) (s.low n)) hb (Int.min_le_left _ _) (by omega) (by
    by_cases e : s.low b ≤ s.low n
    · rw [Int.min_eq_left e]; exact lb.2.2
    · rw [Int.min_eq_right (by omega)]
      obtain ⟨y, hy, e1, e2, e3⟩ := ln.2.2
      exact ⟨y, hy, e1, e2, hbn.2.trans e3⟩)
  have hne : b ≠ n := fun e => by rw [e] at hbn; omega
  refine ⟨h.hZ, fun a ha => h1.pathSub a (by show a ∈ s.path; rw [hp]; exact List.mem_append.2 (Or.inl ha)), h1.opnIn, h1.mem, h1.closedMet, h1.metR, h1.cnt0, h1.opnS, ps1, h1.nxtR, h1.unmet, h1.edges, h1.closedN, h1.lowR, ?_, h1.parts⟩
  intro x hx hmx hlx hxp
  show s.nxt x = L x ∧ sc_upd s.low b (min (s.low b) (s.low n)) x < s.met x ∧ ∃ p, p ∈ P ++ [b] ∧ s.met p < s.met x ∧ sc_upd s.low b (min (s.low b) (s.low n)) p ≤ sc_upd s.low b (min (s.low b) (s.low n)) x ∧ Rch (Ego G L Z) p x ∧ ∀ p' ∈ P ++ [b], s.met p' ≤ s.met x → s.met p' ≤ s.met p
  have hxb : x ≠ b := fun e => hxp (by show x ∈ P ++ [b]; rw [e]; simp)
  rw [upd_ne _ _ _ _ hxb]
  by_cases e : x = n
  · subst e
    exact ⟨hnx, hlow, b, by simp, hbn.1, by rw [upd_at]; omega, hbn.2, fun p' hp' _ => last p' hp'⟩
  · have hxp' : x ∉ s.path := fun hh => by
      rw [hp] at hh
      rcases List.mem_append.1 hh with h2 | h2
      · exact hxp h2
      · exact e (by simpa using h2)
    obtain ⟨e1, e2, p, hpp, e3, e4, e5, e6⟩ := h.off x hx hmx hlx hxp'
    refine ⟨e1, e2, ?_⟩
    by_cases ep : p = n
    · subst ep
      exact ⟨b, by simp, by omega, by rw [upd_at]; omega, hbn.2.trans e5, fun p' hp' _ => last p' hp'⟩
    · have hpp' : p ∈ P ++ [b] := by
        rw [hp] at hpp
        rcases List.mem_append.1 hpp with h2 | h2
        · exact h2
        · exact absurd (by simpa using h2) ep
      refine ⟨p, hpp', e3, ?_, e5, fun p' hp' hle => e6 p' (by rw [hp]; exact List.mem_append.2 (Or.inl hp')) hle⟩
      by_cases epb : p = b
      · subst epb; rw [upd_at]; omega
      · rw [upd_ne _ _ _ _ epb]; exact e4

/-- A node that comes to an earlier one isn't the path's first. -/
theorem Tj.hasBefore (h : Tj G L Z s) {Q : List Nat} {n : Nat} (hp : s.path = Q ++ [n]) (hlow : s.low n < s.met n) : ∃ P b, Q = P ++ [b] := by
  have hn : n ∈ s.path := by rw [hp]; simp
  have ho := h.isOpen (h.pathSub n hn)
  obtain ⟨_, _, y, hy, e1, e2, _⟩ := h.lowR n (h.pathG hn) ho.1 ho.2
  have ln := h.lowR n (h.pathG hn) ho.1 ho.2
  have hex : ∃ q ∈ s.path, q ≠ n := by
    by_cases hyp : y ∈ s.path
    · exact ⟨y, hyp, fun e => by rw [e] at e1; omega⟩
    · obtain ⟨_, _, p, hpp, e3, _⟩ := h.off y hy (by omega) e2 hyp
      exact ⟨p, hpp, fun e => by rw [e] at e3; omega⟩
  obtain ⟨q, hq, hqn⟩ := hex
  rw [hp] at hq
  rcases List.mem_append.1 hq with h1 | h1
  · have hne : Q ≠ [] := fun e => by rw [e] at h1; cases h1
    exact ⟨Q.dropLast, Q.getLast hne, (List.dropLast_concat_getLast hne).symm⟩
  · exact absurd (by simpa using h1) hqn

def closeS (s : ScSt) (A S P : List Nat) (m : Nat) : ScSt := { s with path := P, opn := A, lst := fun x => if x ∈ S then (m : Int) else s.lst x }

/-- A node is left that comes to no earlier open one: all that is open from it on is a part. -/
theorem Tj.close (h : Tj G L Z s) {P A B : List Nat} {n m : Nat} (hp : s.path = P ++ [n]) (hnx : s.nxt n = L n) (hlow : s.low n = s.met n) (ho : s.opn = A ++ (n :: B)) (hm : m ∈ n :: B) (hmin : ∀ y ∈ n :: B, m ≤ y) : Tj G L Z (closeS s A (n :: B) P m) := by
  have hn : n ∈ s.path := by rw [hp]; simp
  have hnG := h.pathG hn
  have hno := h.isOpen (h.pathSub n hn)
  have os := h.opnS
  rw [ho, List.pairwise_append, List.pairwise_cons] at os
  obtain ⟨_, ⟨osB, _⟩, osA⟩ := os
  have ps := h.pathS
  rw [hp, List.pairwise_append] at ps
  obtain ⟨psP, _, psn⟩ := ps
  have inS : ∀ x, x ∈ n :: B ↔ (x ∈ s.opn ∧ s.met n ≤ s.met x) := fun x => by
    constructor
    · intro hx
      refine ⟨by rw [ho]; exact List.mem_append.2 (Or.inr hx), ?_⟩
      rcases List.mem_cons.1 hx with e | hB
      · rw [e]; exact Int.le_refl _
      · have := osB x hB; omega
    · rintro ⟨hx, hle⟩
      rw [ho] at hx
      rcases List.mem_append.1 hx with hA | hS
      · have := osA x hA n (by simp); omega
      · exact hS
  have inA : ∀ x, x ∈ A ↔ (x ∈ s.opn ∧ x ∉ n :: B) := fun x => by
    constructor
    · intro hx
      refine ⟨by rw [ho]; exact List.mem_append.2 (Or.inl hx), fun hS => ?_⟩
      have := osA x hx n (by simp)
      have := ((inS x).1 hS).2
      omega
    · rintro ⟨hx, hS⟩
      rw [ho] at hx
      rcases List.mem_append.1 hx with hA | hS'
      · exact hA
      · exact absurd hS' hS
  have topmax : ∀ p ∈ s.path, s.met p ≤ s.met n := fun p hpp => by
    rw [hp] at hpp
    rcases List.mem_append.1 hpp with h1 | h1
    · have := psn p h1 n (by simp); omega
    · have : p = n := by simpa using h1
      rw [this]; exact Int.le_refl _
  -- of each node of the part
  have f1 : ∀ x ∈ n :: B, x < G ∧ s.met x ≠ 0 ∧ s.lst x = -1 ∧ s.low n ≤ s.low x ∧ Rch (Ego G L Z) n x ∧ s.nxt x = L x := fun x hx => by
    have hxo := ((inS x).1 hx).1
    have hxG := h.opnIn x hxo
    have hxi := h.isOpen hxo
    by_cases e : x = n
    · subst e; exact ⟨hxG, hxi.1, hxi.2, Int.le_refl _, Rch.refl _, hnx⟩
    · have hxp : x ∉ s.path := fun hh => by
        have h1 := topmax x hh
        have h2 := ((inS x).1 hx).2
        exact e (h.inj hxo (h.pathSub n hn) (by omega))
      obtain ⟨e1, e2, p, hpp, e3, e4, e5, e6⟩ := h.off x hxG hxi.1 hxi.2 hxp
      have h1 := e6 n hn ((inS x).1 hx).2
      have h2 := topmax p hpp
      have hpn : p = n := h.inj (h.pathSub p hpp) (h.pathSub n hn) (by omega)
      subst hpn
      exact ⟨hxG, hxi.1, hxi.2, e4, e5, e1⟩
  have f2 : ∀ (k : Nat) x, x ∈ n :: B → s.met x ≤ k → Rch (Ego G L Z) x n := by
    intro k
    induction k with
    | zero =>
      intro x hx hk
      have := h.metR x (f1 x hx).1
      exact absurd (by omega) (f1 x hx).2.1
    | succ k ih =>
      intro x hx hk
      by_cases e : x = n
      · subst e; exact Rch.refl _
      · have hxo := ((inS x).1 hx).1
        obtain ⟨hxG, hxm, hxl, hlow', _, _⟩ := f1 x hx
        have hxp : x ∉ s.path := fun hh => by
          have h1 := topmax x hh
          have h2 := ((inS x).1 hx).2
          exact e (h.inj hxo (h.pathSub n hn) (by omega))
        obtain ⟨_, e2, _⟩ := h.off x hxG hxm hxl hxp
        obtain ⟨e1, _, y, hy, ey, el, er⟩ := h.lowR x hxG hxm hxl
        have hyo : y ∈ s.opn := (h.mem y hy).2 ⟨by omega, el⟩
        have hyS : y ∈ n :: B := (inS y).2 ⟨hyo, by omega⟩
        exact er.trans (ih y hyS (by omega))
  have back : ∀ x ∈ n :: B, Rch (Ego G L Z) x n := fun x hx => f2 (s.met x).toNat x hx (by have := h.metR x (f1 x hx).1; omega)
  have closedStay : ∀ x y, (x < G ∧ s.lst x ≠ -1) → Ego G L Z x y → (y < G ∧ s.lst y ≠ -1) := fun x y hx hxy => by
    obtain ⟨_, i, hi, ei⟩ := hxy
    have hz := h.hZ x hx.1 i hi
    have hyy : (Z x i).toNat = y := by omega
    have := (h.edges x hx.1 (h.closedMet x hx.1 hx.2) i hi (by rw [h.closedN x hx.1 hx.2]; omega)).2.2 hx.2
    rw [hyy] at this
    exact ⟨by omega, this⟩
  have partStay : ∀ x y, (x ∈ n :: B ∨ (x < G ∧ s.lst x ≠ -1)) → Ego G L Z x y → (y ∈ n :: B ∨ (y < G ∧ s.lst y ≠ -1)) := fun x y hx hxy => by
    rcases hx with hx | hx
    · obtain ⟨hxG, hxm, hxl, hlow', _, hxn⟩ := f1 x hx
      obtain ⟨_, i, hi, ei⟩ := hxy
      have hz := h.hZ x hxG i hi
      have hyy : (Z x i).toNat = y := by omega
      obtain ⟨e1, e2, _⟩ := h.edges x hxG hxm i hi (by rw [hxn]; omega)
      rw [hyy] at e1 e2
      by_cases ey : s.lst y = -1
      · have := e2 hxl ey
        exact Or.inl ((inS y).2 ⟨(h.mem y (by omega)).2 ⟨e1, ey⟩, by omega⟩)
      · exact Or.inr ⟨by omega, ey⟩
    · exact Or.inr (closedStay x y hx hxy)
  have mutS : ∀ x ∈ n :: B, ∀ y, y < G → (Mut (Ego G L Z) x y ↔ y ∈ n :: B) := fun x hx y hy => by
    constructor
    · rintro ⟨h1, h2⟩
      rcases h1.stay partStay (Or.inl hx) with hyS | hyC
      · exact hyS
      · have := h2.stay closedStay hyC
        exact absurd (f1 x hx).2.2.1 this.2
    · intro hyS
      exact ⟨(back x hx).trans (f1 y hyS).2.2.2.2.1, (back y hyS).trans (f1 x hx).2.2.2.2.1⟩
  have hmG := (f1 m hm).1
  have newl : ∀ x, x < G → ((closeS s A (n :: B) P m).lst x = -1 ↔ (s.lst x = -1 ∧ x ∉ n :: B)) := fun x hx => by
    show (if x ∈ n :: B then (m : Int) else s.lst x) = -1 ↔ _
    by_cases e : x ∈ n :: B
    · rw [if_pos e]
      exact ⟨fun hh => by omega, fun hh => absurd e hh.2⟩
    · rw [if_neg e]
      exact ⟨fun hh => ⟨hh, e⟩, fun hh => hh.1⟩
  have aOpen : ∀ x, x < G → s.met x ≠ 0 → (closeS s A (n :: B) P m).lst x = -1 → x ∈ s.opn ∧ x ∉ n :: B ∧ s.met x < s.met n ∧ s.lst x = -1 := fun x hx hmx hlx => by
    obtain ⟨h1, h2⟩ := (newl x hx).1 hlx
    have hxo := (h.mem x hx).2 ⟨hmx, h1⟩
    refine ⟨hxo, h2, ?_, h1⟩
    by_cases e : s.met n ≤ s.met x
    · exact absurd ((inS x).2 ⟨hxo, e⟩) h2
    · omega
  refine ⟨h.hZ, ?_, fun a ha => h.opnIn a ((inA a).1 ha).1, ?_, ?_, h.metR, h.cnt0, ?_, psP, h.nxtR, h.unmet, ?_, ?_, ?_, ?_, ?_⟩
  · intro a ha
    refine (inA a).2 ⟨h.pathSub a (by rw [hp]; exact List.mem_append.2 (Or.inl ha)), fun hS => ?_⟩
    have := (psn a ha n (by simp)).1
    have := ((inS a).1 hS).2
    omega
  · intro x hx
    show x ∈ A ↔ (s.met x ≠ 0 ∧ (closeS s A (n :: B) P m).lst x = -1)
    rw [inA, newl x hx, h.mem x hx]
    exact ⟨fun hh => ⟨hh.1.1, hh.1.2, hh.2⟩, fun hh => ⟨⟨hh.1, hh.2.1⟩, hh.2.2⟩⟩
  · intro x hx hlx
    by_cases e : x ∈ n :: B
    · exact (f1 x e).2.1
    · refine h.closedMet x hx (fun hh => hlx ((newl x hx).2 ⟨hh, e⟩))
  · have := h.opnS
    rw [ho, List.pairwise_append] at this
    exact this.1
  · intro x hx hmx j hj hjn
    have hzG := h.zG hx hj
    obtain ⟨e1, e2, e3⟩ := h.edges x hx hmx j hj hjn
    refine ⟨e1, fun a b => e2 ((newl x hx).1 a).1 ((newl _ hzG).1 b).1, fun hlx hz => ?_⟩
    obtain ⟨z1, z2⟩ := (newl _ hzG).1 hz
    by_cases e : x ∈ n :: B
    · rcases partStay x _ (Or.inl e) (h.ego hx hj) with h1 | h1
      · exact z2 h1
      · exact h1.2 z1
    · exact e3 (fun hh => hlx ((newl x hx).2 ⟨hh, e⟩)) z1
  · intro x hx hlx
    by_cases e : x ∈ n :: B
    · exact (f1 x e).2.2.2.2.2
    · exact h.closedN x hx (fun hh => hlx ((newl x hx).2 ⟨hh, e⟩))
  · intro x hx hmx hlx
    obtain ⟨_, _, hlt, hl⟩ := aOpen x hx hmx hlx
    obtain ⟨e1, e2, y, hy, e3, e4, e5⟩ := h.lowR x hx hmx hl
    refine ⟨e1, e2, y, hy, e3, (newl y hy).2 ⟨e4, fun hS => ?_⟩, e5⟩
    have := ((inS y).1 hS).2
    omega
  · intro x hx hmx hlx hxp
    obtain ⟨_, _, hlt, hl⟩ := aOpen x hx hmx hlx
    have hxp' : x ∉ s.path := fun hh => by
      rw [hp] at hh
      rcases List.mem_append.1 hh with h1 | h1
      · exact hxp h1
      · have : x = n := by simpa using h1
        rw [this] at hlt; omega
    obtain ⟨e1, e2, p, hpp, e3, e4, e5, e6⟩ := h.off x hx hmx hl hxp'
    have hpP : p ∈ P := by
      rw [hp] at hpp
      rcases List.mem_append.1 hpp with h1 | h1
      · exact h1
      · have : p = n := by simpa using h1
        rw [this] at e3; omega
    exact ⟨e1, e2, p, hpP, e3, e4, e5, fun p' hp' hle => e6 p' (by rw [hp]; exact List.mem_append.2 (Or.inl hp')) hle⟩
  · intro x hx hlx
    by_cases e : x ∈ n :: B
    · refine ⟨m, hmG, by show (if x ∈ n :: B then (m : Int) else s.lst x) = m; rw [if_pos e], (mutS x e m hmG).2 hm, fun y hy hxy => ?_⟩
      have hyS := (mutS x e y hy).1 hxy
      exact ⟨by show (if y ∈ n :: B then (m : Int) else s.lst y) = m; rw [if_pos hyS], hmin y hyS⟩
    · have hl : s.lst x ≠ -1 := fun hh => hlx ((newl x hx).2 ⟨hh, e⟩)
      obtain ⟨k, hk, e1, e2, e3⟩ := h.parts x hx hl
      refine ⟨k, hk, by show (if x ∈ n :: B then (m : Int) else s.lst x) = k; rw [if_neg e]; exact e1, e2, fun y hy hxy => ?_⟩
      obtain ⟨h1, h2⟩ := e3 y hy hxy
      have hyS : y ∉ n :: B := fun hh => by rw [(f1 y hh).2.2.1] at h1; omega
      exact ⟨by show (if y ∈ n :: B then (m : Int) else s.lst y) = k; rw [if_neg hyS]; exact h1, h2⟩

/-- Nothing is open where the path has ended. -/
theorem Tj.done (h : Tj G L Z s) (hp : s.path = []) : s.opn = [] := by
  cases ho : s.opn with
  | nil => rfl
  | cons a r =>
    have ha : a ∈ s.opn := by rw [ho]; simp
    have hi := h.isOpen ha
    obtain ⟨_, _, p, hpp, _⟩ := h.off a (h.opnIn a ha) hi.1 hi.2 (by rw [hp]; simp)
    rw [hp] at hpp
    cases hpp

end
end Go.Proofs.Ytgahdclbaifcbaa
