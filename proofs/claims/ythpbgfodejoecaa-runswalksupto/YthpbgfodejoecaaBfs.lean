/- Breadth first, as plain mathematics: what 'meet' and 'distances' do to far and order. -/
import Derived.Test.YthpbgfodejoecaaLeafJ
namespace Go.Proofs.Ythpbgfodejoecaa

def upd (F : Nat → Int) (x : Nat) (d : Int) : Nat → Int := fun i => if i = x then d else F i

theorem upd_at (F : Nat → Int) (x : Nat) (d : Int) : upd F x d x = d := by simp [upd]
theorem upd_ne (F : Nat → Int) (x i : Nat) (d : Int) (h : i ≠ x) : upd F x d i = F i := by simp [upd, h]

/-- How many of the first G are not met yet. -/
def cnt (F : Nat → Int) : Nat → Nat
  | 0 => 0
  | n + 1 => cnt F n + if F n = -1 then 1 else 0

theorem cnt_upd_past (F : Nat → Int) (x : Nat) (d : Int) : ∀ n, n ≤ x → cnt (upd F x d) n = cnt F n
  | 0, _ => rfl
  | n + 1, h => by
    simp only [cnt]
    rw [cnt_upd_past F x d n (by omega), upd_ne F x n d (by omega)]

theorem cnt_upd (F : Nat → Int) (x : Nat) (d : Int) (hx : F x = -1) (hd : d ≠ -1) : ∀ n, x < n → cnt (upd F x d) n + 1 = cnt F n
  | n + 1, h => by
    simp only [cnt]
    by_cases e : n = x
    · subst e
      rw [cnt_upd_past F n d n (Nat.le_refl _), upd_at, if_neg hd, if_pos hx]
    · have := cnt_upd F x d hx hd n (by omega)
      rw [upd_ne F x n d e]
      omega

def mstep (d : Int) (x : Nat) (s : (Nat → Int) × List Int) : (Nat → Int) × List Int := if s.1 x = -1 then (upd s.1 x d, s.2 ++ [(x : Int)]) else s

def meetTo (d : Int) (Z : Nat → Int) : Nat → (Nat → Int) × List Int → (Nat → Int) × List Int
  | 0, s => s
  | k + 1, s => mstep d (Z k).toNat (meetTo d Z k s)

theorem meet_hit {d : Int} {Z : Nat → Int} {k t : Nat} {s : (Nat → Int) × List Int} {F : Nat → Int} {O : List Int} (h : (F, O) = meetTo d Z k s) (hz : Z k = t) (hF : F t = -1) : (upd F t d, O ++ [(t : Int)]) = meetTo d Z (k + 1) s := by
  show _ = mstep d (Z k).toNat (meetTo d Z k s)
  rw [← h, hz, Int.toNat_natCast]
  simp [mstep, hF]

theorem meet_miss {d : Int} {Z : Nat → Int} {k t : Nat} {s : (Nat → Int) × List Int} {F : Nat → Int} {O : List Int} (h : (F, O) = meetTo d Z k s) (hz : Z k = t) (hF : F t ≠ -1) : (F, O) = meetTo d Z (k + 1) s := by
  show _ = mstep d (Z k).toNat (meetTo d Z k s)
  rw [← h, hz, Int.toNat_natCast]
  simp [mstep, hF]

/-- One comes to x by k goings from a node of P. -/
def Wk (P : Nat → Prop) (E : Nat → Nat → Prop) : Nat → Nat → Prop
  | 0, x => P x
  | k + 1, x => ∃ y, Wk P E k y ∧ E y x

structure Inv (G : Nat) (P : Nat → Prop) (E : Nat → Nat → Prop) (d : Int) (F : Nat → Int) (O : List Int) : Prop where
  cntE : O.length + cnt F G = G
  inO : ∀ y ∈ O, ∃ x : Nat, x < G ∧ y = (x : Int)
  memF : ∀ x, x < G → ((x : Int) ∈ O ↔ F x ≠ -1)
  rng : ∀ x, x < G → F x ≠ -1 → 0 ≤ F x ∧ F x ≤ d
  srt : O.Pairwise (fun a b => F a.toNat ≤ F b.toNat)
  snd : ∀ x, x < G → F x ≠ -1 → Wk P E (F x).toNat x
  lvl : ∀ j, j < O.length → F (O.getD j 0).toNat ≤ j

theorem Inv.len {G : Nat} {P : Nat → Prop} {E : Nat → Nat → Prop} {d : Int} {F : Nat → Int} {O : List Int} (h : Inv G P E d F O) : O.length ≤ G := by have := h.cntE; omega

theorem Inv.mono {G : Nat} {P : Nat → Prop} {E : Nat → Nat → Prop} {d d' : Int} {F : Nat → Int} {O : List Int} (h : Inv G P E d F O) (hd : d ≤ d') : Inv G P E d' F O :=
  ⟨h.cntE, h.inO, h.memF, fun x hx hF => by have := h.rng x hx hF; omega, h.srt, h.snd, h.lvl⟩

theorem getD_mem {O : List Int} {i : Nat} (h : i < O.length) : O.getD i 0 ∈ O := by
  rw [List.getD_eq_getElem?_getD, List.getElem?_eq_getElem h]
  exact List.getElem_mem _

theorem getD_append_left {O r : List Int} {i : Nat} (h : i < O.length) : (O ++ r).getD i 0 = O.getD i 0 := by
  simp [List.getD_eq_getElem?_getD, List.getElem?_append_left h]

theorem Inv.add {G : Nat} {P : Nat → Prop} {E : Nat → Nat → Prop} {d : Int} {F : Nat → Int} {O : List Int} (h : Inv G P E d F O) {x : Nat} (hx : x < G) (hd : 0 ≤ d) (hdl : d ≤ O.length) (hF : F x = -1) (hw : Wk P E d.toNat x) : Inv G P E d (upd F x d) (O ++ [(x : Int)]) := by
  have hO : (x : Int) ∉ O := fun hh => (h.memF x hx).1 hh hF
  have old : ∀ y ∈ O, upd F x d y.toNat = F y.toNat := fun y hy => by
    obtain ⟨z, _, rfl⟩ := h.inO y hy
    exact upd_ne _ _ _ _ (fun e => hO (by simp at e; rw [← e]; exact hy))
  refine ⟨?_, ?_, ?_, ?_, ?_, ?_, ?_⟩
  · have h1 := h.cntE
    have h2 := cnt_upd F x d hF (by omega) G hx
    simp
    omega
  · intro y hy
    rcases List.mem_append.1 hy with hy | hy
    · exact h.inO y hy
    · exact ⟨x, hx, by simpa using hy⟩
  · intro y hy
    by_cases e : y = x
    · subst e
      rw [upd_at]
      exact ⟨fun _ => by omega, fun _ => by simp⟩
    · rw [upd_ne _ _ _ _ e, ← h.memF y hy]
      simp
      omega
  · intro y hy
    by_cases e : y = x
    · subst e
      rw [upd_at]
      exact fun _ => ⟨hd, Int.le_refl _⟩
    · rw [upd_ne _ _ _ _ e]
      exact h.rng y hy
  · rw [List.pairwise_append]
    refine ⟨?_, by simp, ?_⟩
    · exact List.Pairwise.imp_of_mem (fun {a b} ha hb hab => by rw [old a ha, old b hb]; exact hab) h.srt
    · intro a ha b hb
      have hb' : b = (x : Int) := by simpa using hb
      subst hb'
      rw [old a ha, Int.toNat_natCast, upd_at]
      obtain ⟨z, hz, rfl⟩ := h.inO a ha
      rw [Int.toNat_natCast]
      exact (h.rng z hz ((h.memF z hz).1 ha)).2
  · intro y hy
    by_cases e : y = x
    · subst e
      rw [upd_at]
      exact fun _ => hw
    · rw [upd_ne _ _ _ _ e]
      exact h.snd y hy
  · intro j hj
    by_cases e : j < O.length
    · rw [getD_append_left e, old _ (getD_mem e)]
      exact h.lvl j e
    · have ej : j = O.length := by simp at hj; omega
      subst ej
      have : (O ++ [(x : Int)]).getD O.length 0 = x := by simp
      rw [this, Int.toNat_natCast, upd_at]
      exact hdl

/-- What is met stays as it is; order is only added to. -/
structure Ext (G : Nat) (F F' : Nat → Int) (O O' : List Int) : Prop where
  keep : ∀ x, F x ≠ -1 → F' x = F x
  ord : ∃ r, O' = O ++ r

theorem Ext.refl (G : Nat) (F : Nat → Int) (O : List Int) : Ext G F F O O := ⟨fun _ _ => rfl, [], by simp⟩

theorem Ext.add {G : Nat} {F F' : Nat → Int} {O O' : List Int} (h : Ext G F F' O O') {x : Nat} {d : Int} (hF : F' x = -1) : Ext G F (upd F' x d) O (O' ++ [(x : Int)]) := by
  refine ⟨fun y hy => ?_, ?_⟩
  · have := h.keep y hy
    rw [upd_ne _ _ _ _ (fun e => by subst e; rw [hF] at this; exact hy this.symm)]
    exact this
  · obtain ⟨r, rfl⟩ := h.ord
    exact ⟨r ++ [(x : Int)], by simp⟩

/-- All that meetTo does, of a list of nodes to which one comes by d goings. -/
theorem meetTo_all {G : Nat} {P : Nat → Prop} {E : Nat → Nat → Prop} {d : Int} {F0 : Nat → Int} {O0 : List Int} (h : Inv G P E d F0 O0) (hd : 0 ≤ d) (hdl : d ≤ O0.length) (Z : Nat → Int) :
    ∀ k, (∀ i, i < k → 0 ≤ Z i ∧ Z i < G ∧ Wk P E d.toNat (Z i).toNat) → ∀ F O, (F, O) = meetTo d Z k (F0, O0) → Inv G P E d F O ∧ Ext G F0 F O0 O ∧ ∀ i, i < k → F (Z i).toNat ≠ -1
  | 0, _, F, O, e => by
    simp only [meetTo, Prod.mk.injEq] at e
    obtain ⟨rfl, rfl⟩ := e
    exact ⟨h, Ext.refl _ _ _, fun i hi => by omega⟩
  | k + 1, hz, F, O, e => by
    obtain ⟨I, X, M⟩ := meetTo_all h hd hdl Z k (fun i hi => hz i (by omega)) (meetTo d Z k (F0, O0)).1 (meetTo d Z k (F0, O0)).2 rfl
    obtain ⟨z0, z1, zw⟩ := hz k (by omega)
    have e' : (F, O) = mstep d (Z k).toNat (meetTo d Z k (F0, O0)) := e
    by_cases hF : (meetTo d Z k (F0, O0)).1 (Z k).toNat = -1
    · rw [mstep, if_pos hF] at e'
      simp only [Prod.mk.injEq] at e'
      obtain ⟨rfl, rfl⟩ := e'
      refine ⟨I.add (by omega) hd (by obtain ⟨r, hr⟩ := X.ord; rw [hr]; simp; omega) hF zw, X.add hF, fun i hi => ?_⟩
      by_cases ei : (Z i).toNat = (Z k).toNat
      · rw [ei, upd_at]; omega
      · rw [upd_ne _ _ _ _ ei]
        by_cases hik : i = k
        · subst hik; exact absurd rfl ei
        · exact M i (by omega)
    · rw [mstep, if_neg hF] at e'
      rw [← e'] at I X M hF
      refine ⟨I, X, fun i hi => ?_⟩
      by_cases hik : i = k
      · subst hik; exact hF
      · exact M i (by omega)

/-- What holds at the head of the loop over order, at its i-th node. -/
structure Head (G : Nat) (P : Nat → Prop) (E : Nat → Nat → Prop) (i : Nat) (F : Nat → Int) (O : List Int) : Prop where
  inv : ∃ D : Int, Inv G P E D F O ∧ 0 ≤ D ∧ D ≤ i ∧ (i < O.length → D ≤ F (O.getD i 0).toNat + 1)
  le : i ≤ O.length
  src : ∀ x, P x → x < G → F x = 0
  shut : ∀ j, j < i → ∀ y, E (O.getD j 0).toNat y → y < G → F y ≠ -1 ∧ F y ≤ F (O.getD j 0).toNat + 1

/-- At the node x, at index i. -/
theorem Head.node {G : Nat} {P : Nat → Prop} {E : Nat → Nat → Prop} {i : Nat} {F : Nat → Int} {O : List Int} (h : Head G P E i F O) (hi : i < O.length) :
    ∃ x : Nat, x < G ∧ O.getD i 0 = (x : Int) ∧ 0 ≤ F x ∧ F x ≤ i ∧ Inv G P E (F x + 1) F O ∧ Wk P E (F x).toNat x := by
  obtain ⟨D, hI, h0, hD, hDi⟩ := h.inv
  obtain ⟨x, hx, e⟩ := hI.inO _ (getD_mem hi)
  have hm : (x : Int) ∈ O := by rw [← e]; exact getD_mem hi
  have hF := (hI.memF x hx).1 hm
  have hr := hI.rng x hx hF
  have hDi := hDi hi
  rw [e, Int.toNat_natCast] at hDi
  exact ⟨x, hx, e, hr.1, by omega, hI.mono hDi, hI.snd x hx hF⟩

theorem Head.next {G : Nat} {P : Nat → Prop} {E : Nat → Nat → Prop} {i : Nat} {F F' : Nat → Int} {O O' : List Int} {x n : Nat} {Z : Nat → Int} (h : Head G P E i F O) (hi : i < O.length) (hx : x < G) (e : O.getD i 0 = (x : Int))
    (hZ : ∀ k, k < n → 0 ≤ Z k ∧ Z k < G ∧ E x (Z k).toNat) (hE : ∀ y, E x y → y < G → ∃ k, k < n ∧ (Z k).toNat = y) (hs : (F', O') = meetTo (F x + 1) Z n (F, O)) : Head G P E (i + 1) F' O' := by
  obtain ⟨x', hx', e', h0, hle, hI, hw⟩ := h.node hi
  have hxx : x' = x := by rw [e'] at e; omega
  subst hxx
  have hwk : ∀ k, k < n → 0 ≤ Z k ∧ Z k < G ∧ Wk P E (F x' + 1).toNat (Z k).toNat := fun k hk => by
    obtain ⟨z0, z1, z2⟩ := hZ k hk
    refine ⟨z0, z1, ?_⟩
    have : (F x' + 1).toNat = (F x').toNat + 1 := by omega
    rw [this]
    exact ⟨x', hw, z2⟩
  obtain ⟨I, X, M⟩ := meetTo_all hI (by omega) (by omega) Z n hwk F' O' hs
  obtain ⟨r, hr⟩ := X.ord
  have hlen : O.length ≤ O'.length := by rw [hr]; simp
  have hget : ∀ j, j < O.length → O'.getD j 0 = O.getD j 0 := fun j hj => by rw [hr]; exact getD_append_left hj
  have hmet : ∀ j, j < O.length → F' (O.getD j 0).toNat = F (O.getD j 0).toNat := fun j hj => by
    obtain ⟨z, hz, ez⟩ := hI.inO _ (getD_mem hj)
    rw [ez, Int.toNat_natCast]
    refine X.keep z ((hI.memF z hz).1 ?_)
    rw [← ez]
    exact getD_mem hj
  have hFx : F' x' = F x' := X.keep x' (by omega)
  refine ⟨⟨F x' + 1, I, by omega, by omega, fun hlt => ?_⟩, by omega, fun y hy hyG => ?_, fun j hj y hy hyG => ?_⟩
  · have hp := List.pairwise_iff_getElem.1 I.srt i (i + 1) (by omega) hlt (by omega)
    have e1 : O'[i] = O'.getD i 0 := by rw [List.getD_eq_getElem?_getD, List.getElem?_eq_getElem (by omega)]; rfl
    have e2 : O'[i + 1] = O'.getD (i + 1) 0 := by rw [List.getD_eq_getElem?_getD, List.getElem?_eq_getElem hlt]; rfl
    rw [e1, e2, hget i hi, e', Int.toNat_natCast, hFx] at hp
    omega
  · rw [X.keep y (by rw [h.src y hy hyG]; omega)]
    exact h.src y hy hyG
  · by_cases ej : j = i
    · subst ej
      rw [hget j hi, e', Int.toNat_natCast] at hy ⊢
      obtain ⟨k, hk, rfl⟩ := hE y hy hyG
      have hne := M k hk
      exact ⟨hne, by rw [hFx]; exact (I.rng _ hyG hne).2⟩
    · have hjl : j < O.length := by omega
      rw [hget j hjl] at hy ⊢
      obtain ⟨h1, h2⟩ := h.shut j (by omega) y hy hyG
      rw [X.keep y h1, hmet j hjl]
      exact ⟨h1, h2⟩

/-- What distances answers. -/
structure Dist (G : Nat) (P : Nat → Prop) (E : Nat → Nat → Prop) (F : Nat → Int) (O : List Int) : Prop where
  len : O.length ≤ G
  inO : ∀ y ∈ O, ∃ x : Nat, x < G ∧ y = (x : Int)
  memF : ∀ x, x < G → ((x : Int) ∈ O ↔ F x ≠ -1)
  rng : ∀ x, x < G → F x ≠ -1 → 0 ≤ F x ∧ F x < G
  srt : O.Pairwise (fun a b => F a.toNat ≤ F b.toNat)
  snd : ∀ x, x < G → F x ≠ -1 → Wk P E (F x).toNat x
  all : ∀ k x, x < G → Wk P E k x → F x ≠ -1 ∧ F x ≤ k

theorem Head.all {G : Nat} {P : Nat → Prop} {E : Nat → Nat → Prop} {i : Nat} {F : Nat → Int} {O : List Int} (h : Head G P E i F O) (hi : ¬ i < O.length) (hE : ∀ x y, E x y → x < G) :
    ∀ k x, x < G → Wk P E k x → F x ≠ -1 ∧ F x ≤ k
  | 0, x, hx, hw => by rw [h.src x hw hx]; omega
  | k + 1, x, hx, hw => by
    obtain ⟨y, hwy, hyx⟩ := hw
    have hy := hE y x hyx
    obtain ⟨h1, h2⟩ := Head.all h hi hE k y hy hwy
    obtain ⟨D, hI, _⟩ := h.inv
    obtain ⟨j, hj, ej⟩ := List.getElem_of_mem ((hI.memF y hy).2 h1)
    have ej' : O.getD j 0 = (y : Int) := by rw [List.getD_eq_getElem?_getD, List.getElem?_eq_getElem hj, ej]; rfl
    have := h.shut j (by omega) x (by rw [ej', Int.toNat_natCast]; exact hyx) hx
    rw [ej', Int.toNat_natCast] at this
    exact ⟨this.1, by omega⟩

theorem Head.dist {G : Nat} {P : Nat → Prop} {E : Nat → Nat → Prop} {i : Nat} {F : Nat → Int} {O : List Int} (h : Head G P E i F O) (hi : ¬ i < O.length) (hE : ∀ x y, E x y → x < G) : Dist G P E F O := by
  obtain ⟨D, hI, h0, hD, _⟩ := h.inv
  have hl := hI.len
  have hle := h.le
  exact ⟨hl, hI.inO, hI.memF, fun x hx hF => ⟨(hI.rng x hx hF).1, by
    obtain ⟨j, hj, ej⟩ := List.getElem_of_mem ((hI.memF x hx).2 hF)
    have ej' : O.getD j 0 = (x : Int) := by rw [List.getD_eq_getElem?_getD, List.getElem?_eq_getElem hj, ej]; rfl
    have := hI.lvl j hj
    rw [ej', Int.toNat_natCast] at this
    omega⟩, hI.srt, hI.snd, h.all hi hE⟩

theorem Head.len {G : Nat} {P : Nat → Prop} {E : Nat → Nat → Prop} {i : Nat} {F : Nat → Int} {O : List Int} (h : Head G P E i F O) : O.length ≤ G := by
  obtain ⟨D, hI, _⟩ := h.inv
  exact hI.len

theorem inv_start (G : Nat) (P : Nat → Prop) (E : Nat → Nat → Prop) : Inv G P E 0 (fun _ => -1) [] := by
  have h0 : ∀ m, cnt (fun _ => -1) m = m := by
    intro m
    induction m with
    | zero => rfl
    | succ m ih => simp [cnt, ih]
  exact ⟨by simp [h0], by simp, fun x _ => by simp, fun x _ hh => absurd rfl hh, List.Pairwise.nil, fun x _ hh => absurd rfl hh, fun j hj => by cases hj⟩

theorem Head.start {G : Nat} {P : Nat → Prop} {E : Nat → Nat → Prop} {F : Nat → Int} {O : List Int} {n : Nat} {Z : Nat → Int} (hZ : ∀ k, k < n → 0 ≤ Z k ∧ Z k < G ∧ P (Z k).toNat) (hP : ∀ x, P x → x < G → ∃ k, k < n ∧ (Z k).toNat = x)
    (hs : (F, O) = meetTo 0 Z n (fun _ => -1, [])) : Head G P E 0 F O := by
  have I0 : Inv G P E 0 (fun _ => -1) [] := inv_start G P E
  obtain ⟨I, X, M⟩ := meetTo_all I0 (Int.le_refl _) (Int.le_refl _) Z n (fun k hk => ⟨(hZ k hk).1, (hZ k hk).2.1, (hZ k hk).2.2⟩) F O hs
  refine ⟨⟨0, I, Int.le_refl _, Int.le_refl _, fun hi => ?_⟩, Nat.zero_le _, fun x hx hxG => ?_, fun j hj => by omega⟩
  · obtain ⟨x, hx, e⟩ := I.inO _ (getD_mem hi)
    rw [e, Int.toNat_natCast]
    have := I.rng x hx ((I.memF x hx).1 (by rw [← e]; exact getD_mem hi))
    omega
  · obtain ⟨k, hk, rfl⟩ := hP x hx hxG
    have := I.rng _ hxG (M k hk)
    omega

end Go.Proofs.Ythpbgfodejoecaa
