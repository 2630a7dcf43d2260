/-   -/
import Derived.Test.YtmdpbaobihdgkaaGreatDoorAWlBJ
/- slices.Backward of spots: its contract. -/
/- Endless ways that meet each set again and again: told by a set that one need not leave, and by parts. -/
namespace Go.Proofs.YtmdpbaobihdgkaaGreatDoor
open Go.RowKit Go.Shelf
attribute [local go_sem] Oper.semAt_some
def revF (n : Nat) : List (Fin n) := (List.finRange n).reverse
theorem revF_len (n : Nat) : (revF n).length = n := by simp [revF]
theorem revF_at {n k : Nat} (h : k < n) : (revF n)[k]? = some ⟨n - 1 - k, by omega⟩ := by
 unfold revF
 have h1 : n - 1 - k < (List.finRange n).length := by rw [List.length_finRange]; omega
 rw [List.getElem?_reverse (by simpa using h), List.length_finRange, List.getElem?_eq_getElem h1, List.getElem_finRange]
 rfl
theorem revF_succ {n k : Nat} (h : k < n) : (revF n).take (k + 1) = (revF n).take k ++ [⟨n - 1 - k, by omega⟩] := by
 rw [List.take_add_one, revF_at h]; rfl
def gq (met : List (Nat × Nat)) (i : Nat) : Nat × Nat := met.getD i (0, 0)
abbrev spE (met : List (Nat × Nat)) (j : Fin met.length) : Array Value := #[.int .i64 ((j.1 : Nat) : Int), .agg #[.int .i64 ((gq met j.1).1 : Nat), .int .i64 ((gq met j.1).2 : Nat)]]
def a_Kb (b c : Nat) (W W' : World) : Prop := W'.heap[b]? = W.heap[b]? ∧ W'.heap[c]? = W.heap[c]?
set_option maxRecDepth 100000 in
set_option maxHeartbeats 2000000 in
theorem bwd_stops (n Bs mb mc : Nat) (met : List (Nat × Nat)) (w : World) (hl : met.length ≤ 122880) (ma : Option Addr) (hma : 0 < met.length → ma = some ⟨mb, 0, none⟩) (hB : Bs < w.heap.size) (hM : mb < w.heap.size)
  (hBs : w.cell? ⟨Bs, 0, none⟩ = some (.slice ma met.length mc))
  (hc : ∀ i, i < met.length → w.cell? ⟨mb, i * 2, none⟩ = some (.int .i64 ((gq met i).1 : Nat)) ∧ w.cell? ⟨mb, i * 2 + 1, none⟩ = some (.int .i64 ((gq met i).2 : Nat))) :
  SeqStopsK Fence.wide n Tryz.prog 106 #[.pointer (some ⟨Bs, 0, none⟩)] (spE met) (a_Kb Bs mb) (fun xs => xs = revF met.length) (fun pre => pre <+: revF met.length) met.length w := fun l J Jx W hW _ _ hY h0 => by
 refine callsIn_of_wp Tryz.func106 rfl trivial ?_ rfl
 simp only [Tryz.ntmps106, List.size_toArray, List.length_cons, List.length_nil, Nat.reduceAdd, Nat.reduceSub, Array.replicate_succ, Array.replicate_zero, List.push_toArray, List.append_toArray, List.nil_append, List.cons_append]
 have hBs' : W.cell? ⟨Bs, 0, none⟩ = some (.slice ma met.length mc) := below_cell' hW hB hBs
 have HC : Hid (∀ i, i < met.length → W.cell? ⟨mb, i * 2, none⟩ = some (.int .i64 ((gq met i).1 : Nat)) ∧ W.cell? ⟨mb, i * 2 + 1, none⟩ = some (.int .i64 ((gq met i).2 : Nat))) := hid (fun i hi => ⟨below_cell' hW hM (hc i hi).1, below_cell' hW hM (hc i hi).2⟩)
 have HY := hid hY
 clear hc hBs hW hY
 gi_wp2
 gi_loopw [3] (fun i wr => ∃ k : Nat, k ≤ met.length ∧ i = .int .i64 ((met.length : Int) - 1 - k) ∧ Hid (J ((revF met.length).take k) wr ∧ a_Kb Bs mb W wr)) (fun i _ => (intOf i + 1).toNat)
 case atStart => exact ⟨0, by omega, by simp, hid ⟨by simpa using h0, rfl, rfl⟩⟩
 case round =>
  obtain ⟨k, hk, rfl, H⟩ := hrel
  by_cases hlt : k < met.length
  ·have hf : met.length - 1 - k < met.length := by omega
   obtain rfl := hma (by omega)
   obtain ⟨j, hj⟩ : ∃ j : Nat, met.length = k + 1 + j := ⟨met.length - 1 - k, by omega⟩
   have e1 : (met.length : Int) - 1 - k = (j : Int) := by omega
   obtain ⟨fn, tmps, assign, body, hy, hR⟩ := HY.out _ ⟨met.length - 1 - k, hf⟩ wr H.out.1 (by rw [List.length_take, revF_len]; omega)
   have e2 : met.length - 1 - k = j := by omega
   simp only [spE, e2] at hy
   have hb1 : wr.cell? ⟨Bs, 0, none⟩ = some (.slice (some ⟨mb, 0, none⟩) met.length mc) := (World.cell?_of_block (w := W) H.out.2.1).trans hBs'
   have hc1 := (World.cell?_of_block (w := W) (a := ⟨mb, j * 2, none⟩) H.out.2.2).trans (HC.out j (by omega)).1
   have hc2 := (World.cell?_of_block (w := W) (a := ⟨mb, j * 2 + 1, none⟩) H.out.2.2).trans (HC.out j (by omega)).2
   have HR := hid hR
   have hjl : j < met.length := by omega
   rw [e1]
   have HJ0 := hid hj
   clear hR e1 e2 hBs' hj
   generalize gq met j = q at hy hc1 hc2
   gi_wp2
   refine ⟨fun h => by simp [Fence.wide] at h, ?_⟩
   refine HR.out.mono ?_
   rintro e W3 (⟨rfl, hJ3, hk3⟩ | ⟨rfl, hJx3⟩)
   ·have HJ := hid (And.intro hJ3 hk3)
    clear hJ3 hk3
    gi_wp2
    go_roundw
    case rel => exact ⟨k + 1, by omega, by have := HJ0.out; simp; omega, hid ⟨by rw [revF_succ hlt]; exact HJ.out.1, HJ.out.2.1.trans H.out.2.1, HJ.out.2.2.trans H.out.2.2⟩⟩
    case measure => simp [intOf]
   ·gi_wp2
    refine bodyPost_ret (results_none rfl _ _ _) rfl ?_
    refine ⟨⟨_, rfl⟩, .inr ⟨_, ?_, hJx3⟩⟩
    rw [← revF_succ hlt]
    exact List.take_prefix _ _
  ·obtain rfl : k = met.length := by omega
   have e1 : (met.length : Int) - 1 - (met.length : Int) = -1 := by omega
   rw [e1]
   gi_wp2
   go_end0
   refine ⟨⟨_, rfl⟩, .inl ⟨_, rfl, ?_⟩⟩
   have := H.out.1
   rwa [List.take_of_length_le (by rw [revF_len]; omega)] at this
theorem bwd71 (a : Option Addr) (n c : Nat) (w : World) : Calls Tryz.prog 77 #[.slice a n c] w fun e w' => e = .returned (.func (.func 106) #[] #[.pointer (some ⟨w.heap.size, 0, none⟩)]) ∧ w' = w.alloc (.cells #[.slice a n c] 116) := by
 have hmf : ∀ (fn : Fn) (first cap : Array Value) (w : World), (Instr.makeFunc fn first cap).run Tryz.prog w = .ok (.func fn first cap) w := fun _ _ _ _ => rfl
 go_enter Tryz.func77, Tryz.ntmps77
 go_wp2
 go_ret
 exact ⟨rfl, rfl⟩
end Go.Proofs.YtmdpbaobihdgkaaGreatDoor
namespace Go.Proofs.YtmdpbaobihdgkaaGreatDoor
def Wy (E : Nat → Nat → Prop) (p : Nat → Nat) : Prop := ∀ j, E (p j) (p (j + 1))
def Oft (F : Nat → Prop) (p : Nat → Nat) : Prop := ∀ j, ∃ l, j ≤ l ∧ F (p l)
def FairAt (E : Nat → Nat → Prop) (K : Nat) (F : Nat → Nat → Prop) (i : Nat) : Prop := ∃ p : Nat → Nat, p 0 = i ∧ Wy E p ∧ ∀ k, k < K → Oft (F k) p
def PthZ (E : Nat → Nat → Prop) (Z : Nat → Prop) : Nat → Nat → Nat → Prop
 | 0, i, j => i = j ∧ Z i
 | n + 1, i, j => Z i ∧ ∃ l, E i l ∧ PthZ E Z n l j
theorem PthZ.first {E : Nat → Nat → Prop} {Z : Nat → Prop} {n i j : Nat} (h : PthZ E Z n i j) : Z i := by
 cases n with
 | zero => exact h.2
 | succ n => exact h.1
theorem PthZ.app {E : Nat → Nat → Prop} {Z : Nat → Prop} : ∀ {n m i j l : Nat}, PthZ E Z n i j → PthZ E Z m j l → PthZ E Z (n + m) i l
 | 0, m, i, j, l, h, k => by
  obtain ⟨rfl, _⟩ := h
  rw [Nat.zero_add]; exact k
 | n + 1, m, i, j, l, ⟨h1, x, h2, h3⟩, k => by
  rw [Nat.succ_add]
  exact ⟨h1, x, h2, PthZ.app h3 k⟩
def Closed (E : Nat → Nat → Prop) (K : Nat) (F : Nat → Nat → Prop) (Z : Nat → Prop) : Prop := ∀ i, Z i → ∀ k, k < K → ∃ n j, PthZ E Z (n + 1) i j ∧ F k j
theorem fair_of_closed {E : Nat → Nat → Prop} {K : Nat} {F : Nat → Nat → Prop} {Z : Nat → Prop} (hK : 0 < K) (h : Closed E K F Z) {i : Nat} (hi : Z i) : FairAt E K F i := by
 -- a state: where one is, which set is waited for, how many goings are left
 let Ok : Nat × Nat × Nat → Prop := fun s => s.2.1 < K ∧ ∃ j, PthZ E Z (s.2.2 + 1) s.1 j ∧ F s.2.1 j
 have hz : ∀ s, Ok s → Z s.1 := fun s hs => by
  obtain ⟨_, j, h1, _⟩ := hs
  exact h1.first
 have hstep : ∀ s : Nat × Nat × Nat, ∃ s' : Nat × Nat × Nat, Ok s → (E s.1 s'.1 ∧ Ok s' ∧ (s.2.2 = 0 → F s.2.1 s'.1 ∧ s'.2.1 = (s.2.1 + 1) % K) ∧ (s.2.2 ≠ 0 → s'.2.1 = s.2.1 ∧ s'.2.2 + 1 = s.2.2)) := by
  rintro ⟨x, k, n⟩
  by_cases ho : Ok (x, k, n)
  ·obtain ⟨hk, j, ⟨h1, y, h2, h3⟩, h4⟩ := ho
   cases n with
   | zero =>
    obtain ⟨rfl, hy⟩ := h3
    obtain ⟨n', j', h5, h6⟩ := h y hy ((k + 1) % K) (Nat.mod_lt _ hK)
    exact ⟨(y, (k + 1) % K, n'), fun _ => ⟨h2, ⟨Nat.mod_lt _ hK, j', h5, h6⟩, fun _ => ⟨h4, rfl⟩, fun e => absurd rfl e⟩⟩
   | succ n => exact ⟨(y, k, n), fun _ => ⟨h2, ⟨hk, j, h3, h4⟩, fun e => absurd e (Nat.succ_ne_zero n), fun _ => ⟨rfl, rfl⟩⟩⟩
  ·exact ⟨(x, k, n), fun h => absurd h ho⟩
 obtain ⟨f, hf⟩ := Classical.axiomOfChoice hstep
 obtain ⟨n0, j0, h0, h1⟩ := h i hi 0 hK
 obtain ⟨q, hq0, hqs⟩ : ∃ q : Nat → Nat × Nat × Nat, q 0 = (i, 0, n0) ∧ ∀ t, q (t + 1) = f (q t) := ⟨fun t => Nat.rec (i, 0, n0) (fun _ s => f s) t, rfl, fun _ => rfl⟩
 have hok : ∀ t, Ok (q t) := by
  intro t
  induction t with
  | zero => rw [hq0]; exact ⟨hK, j0, h0, h1⟩
  | succ t ih => rw [hqs]; exact (hf _ ih).2.1
 have hA : ∀ n t, (q t).2.2 = n → ∃ t', t < t' ∧ F (q t).2.1 (q t').1 ∧ (q t').2.1 = ((q t).2.1 + 1) % K := by
  intro n
  induction n with
  | zero =>
   intro t ht
   have := (hf _ (hok t)).2.2.1 ht
   rw [← hqs] at this
   exact ⟨t + 1, by omega, this⟩
  | succ n ih =>
   intro t ht
   have h3 := (hf _ (hok t)).2.2.2 (by omega)
   rw [← hqs] at h3
   obtain ⟨t', a, b, c⟩ := ih (t + 1) (by omega)
   rw [h3.1] at b c
   exact ⟨t', by omega, b, c⟩
 have hB : ∀ m t, ∃ t', t ≤ t' ∧ (q t').2.1 = ((q t).2.1 + m) % K := by
  intro m
  induction m with
  | zero => intro t; exact ⟨t, Nat.le_refl _, by rw [Nat.add_zero, Nat.mod_eq_of_lt (hok t).1]⟩
  | succ m ih =>
   intro t
   obtain ⟨t1, a, b⟩ := ih t
   obtain ⟨t2, c, _, d⟩ := hA _ t1 rfl
   refine ⟨t2, by omega, ?_⟩
   rw [d, b, Nat.mod_add_mod, Nat.add_assoc]
 refine ⟨fun t => (q t).1, by show (q 0).1 = i; rw [hq0], fun t => ?_, fun k hk j => ?_⟩
 ·show E (q t).1 (q (t + 1)).1
  rw [hqs]; exact (hf _ (hok t)).1
 ·obtain ⟨t1, a, b⟩ := hB (K + k - (q j).2.1) j
  have hlt := (hok j).1
  rw [show (q j).2.1 + (K + k - (q j).2.1) = k + K by omega, Nat.add_mod_right, Nat.mod_eq_of_lt hk] at b
  obtain ⟨t2, c, d, _⟩ := hA _ t1 rfl
  rw [b] at d
  exact ⟨t2, by omega, d⟩
theorem fair_none (E : Nat → Nat → Prop) (F : Nat → Nat → Prop) (i : Nat) : FairAt E 0 F i ↔ FairAt E 1 (fun _ _ => True) i :=
 ⟨fun ⟨p, h1, h2, _⟩ => ⟨p, h1, h2, fun _ _ j => ⟨j, Nat.le_refl _, trivial⟩⟩, fun ⟨p, h1, h2, _⟩ => ⟨p, h1, h2, fun k hk => absurd hk (Nat.not_lt_zero k)⟩⟩
def Rc (E : Nat → Nat → Prop) (i j : Nat) : Prop := ∃ n, PthZ E (fun _ => True) n i j
def Rc1 (E : Nat → Nat → Prop) (i j : Nat) : Prop := ∃ n, PthZ E (fun _ => True) (n + 1) i j
theorem Rc.refl (E : Nat → Nat → Prop) (i : Nat) : Rc E i i := ⟨0, rfl, trivial⟩
theorem Rc.trans {E : Nat → Nat → Prop} {i j l : Nat} (h : Rc E i j) (k : Rc E j l) : Rc E i l := by
 obtain ⟨n, h⟩ := h
 obtain ⟨m, k⟩ := k
 exact ⟨n + m, h.app k⟩
theorem Rc.step {E : Nat → Nat → Prop} {i j l : Nat} (h : E i j) (k : Rc E j l) : Rc E i l := by
 obtain ⟨m, k⟩ := k
 exact ⟨m + 1, trivial, j, h, k⟩
theorem Rc1.of {E : Nat → Nat → Prop} {i j l : Nat} (h : E i j) (k : Rc E j l) : Rc1 E i l := by
 obtain ⟨m, k⟩ := k
 exact ⟨m, trivial, j, h, k⟩
theorem Rc1.app {E : Nat → Nat → Prop} {i j l : Nat} (h : Rc E i j) (k : Rc1 E j l) : Rc1 E i l := by
 obtain ⟨n, h⟩ := h
 obtain ⟨m, k⟩ := k
 exact ⟨n + m, h.app k⟩
theorem Rc1.then {E : Nat → Nat → Prop} {i j l : Nat} (h : Rc1 E i j) (k : Rc E j l) : Rc1 E i l := by
 obtain ⟨n, h⟩ := h
 obtain ⟨m, k⟩ := k
 refine ⟨n + m, ?_⟩
 have := h.app k
 rw [show n + 1 + m = n + m + 1 by omega] at this
 exact this
theorem pth_to {E : Nat → Nat → Prop} {c : Nat} : ∀ {n i j : Nat}, PthZ E (fun _ => True) n i j → Rc E j c → PthZ E (fun x => Rc E x c) n i j
 | 0, _, _, h, hc => ⟨h.1, by rw [h.1]; exact hc⟩
 | n + 1, i, j, ⟨_, x, h2, h3⟩, hc => ⟨Rc.step h2 (Rc.trans ⟨n, h3⟩ hc), x, h2, pth_to h3 hc⟩
theorem way_rc {E : Nat → Nat → Prop} {p : Nat → Nat} (h : Wy E p) (j n : Nat) : PthZ E (fun _ => True) n (p j) (p (j + n)) := by
 induction n generalizing j with
 | zero => exact ⟨rfl, trivial⟩
 | succ n ih =>
  refine ⟨trivial, p (j + 1), h j, ?_⟩
  have := ih (j + 1)
  rw [show j + 1 + n = j + (n + 1) by omega] at this
  exact this
theorem again_one {n : Nat} {p : Nat → Nat} {J : Nat → Prop} (hp : ∀ j, J j → p j < n) (hJ : ∀ j, ∃ l, j ≤ l ∧ J l) : ∃ c, c < n ∧ ∀ j, ∃ l, j ≤ l ∧ J l ∧ p l = c := by
 refine Classical.byContradiction fun hno => ?_
 have hb : ∀ m, m ≤ n → ∃ b, ∀ l, b ≤ l → J l → ¬ p l < m := by
  intro m
  induction m with
  | zero => intro _; exact ⟨0, fun l _ _ h => absurd h (Nat.not_lt_zero _)⟩
  | succ m ih =>
   intro hm
   obtain ⟨b, hb⟩ := ih (by omega)
   have h1 : ¬ ∀ j, ∃ l, j ≤ l ∧ J l ∧ p l = m := fun h => hno ⟨m, by omega, h⟩
   obtain ⟨j, hj⟩ := Classical.not_forall.1 h1
   refine ⟨max b j, fun l hl hJl hlt => ?_⟩
   have h2 := hb l (by omega) hJl
   exact hj ⟨l, by omega, hJl, by omega⟩
 obtain ⟨b, hb⟩ := hb n jq0
 obtain ⟨l, h1, h2⟩ := hJ b
 exact hb l h1 h2 (hp l h2)
theorem fair_part {E : Nat → Nat → Prop} {K : Nat} {F : Nat → Nat → Prop} {n : Nat} (hE : ∀ i j, E i j → j < n) (i : Nat) : FairAt E K F i ↔ ∃ c, Rc E i c ∧ Rc1 E c c ∧ ∀ k, k < K → ∃ x, F k x ∧ Rc E c x ∧ Rc E x c := by
 constructor
 ·rintro ⟨p, rfl, hp, hF⟩
  have hlt : ∀ j, 1 ≤ j → p j < n := fun j hj => by
   have := hE _ _ (hp (j - 1))
   rwa [show j - 1 + 1 = j by omega] at this
  obtain ⟨c, _, hc⟩ := again_one (n := n) (p := p) (J := fun j => 1 ≤ j) (fun j hj => hlt j hj) (fun j => ⟨j + 1, by omega, by omega⟩)
  have tq : ∀ j l, j ≤ l → Rc E (p j) (p l) := fun j l h => ⟨l - j, by
   have := way_rc hp j (l - j)
   rw [show j + (l - j) = l by omega] at this
   exact this⟩
  obtain ⟨l0, _, _, e0⟩ := hc 0
  refine ⟨c, by rw [← e0]; exact tq 0 l0 (by omega), ?_, fun k hk => ?_⟩
  ·obtain ⟨l1, h1, _, e1⟩ := hc (l0 + 1)
   have := Rc1.of (hp l0) (tq (l0 + 1) l1 h1)
   rw [e0, e1] at this
   exact this
  ·obtain ⟨x, _, hx⟩ := again_one (n := n) (p := p) (J := fun j => 1 ≤ j ∧ F k (p j)) (fun j hj => hlt j hj.1) (fun j => by
    obtain ⟨l, h1, h2⟩ := hF k hk (j + 1)
    exact ⟨l, by omega, by omega, h2⟩)
   obtain ⟨l1, h1, ⟨_, h2⟩, e1⟩ := hx l0
   obtain ⟨l2, h3, _, e2⟩ := hc l1
   refine ⟨x, by rw [← e1]; exact h2, ?_, ?_⟩
   ·rw [← e0, ← e1]; exact tq l0 l1 h1
   ·rw [← e1, ← e2]; exact tq l1 l2 h3
 ·rintro ⟨c, h1, h2, h3⟩
  have key : ∀ (K' : Nat) (F' : Nat → Nat → Prop), 0 < K' → (∀ k, k < K' → ∃ x, F' k x ∧ Rc E c x ∧ Rc E x c) → FairAt E K' F' i := by
   intro K' F' hK hx
   refine fair_of_closed (Z := fun x => Rc E x c) hK (fun z hz k hk => ?_) h1
   obtain ⟨x, hF, hcx, hxc⟩ := hx k hk
   obtain ⟨m, hm⟩ := (Rc1.app hz h2).then hcx
   exact ⟨m, x, pth_to hm hxc, hF⟩
  by_cases hK : 0 < K
  ·exact key K F hK h3
  ·obtain rfl : K = 0 := by omega
   rw [fair_none]
   exact key 1 _ (by omega) (fun _ _ => ⟨c, trivial, Rc.refl _ _, Rc.refl _ _⟩)
end Go.Proofs.YtmdpbaobihdgkaaGreatDoor
