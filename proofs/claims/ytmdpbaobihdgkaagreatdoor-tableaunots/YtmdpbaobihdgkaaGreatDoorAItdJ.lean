/-   -/
import Derived.Test.YtmdpbaobihdgkaaGreatDoorARll
/- Pairs that come from an iterator which writes in memory of its own: what it says, and the law of a range over it. -/
/- slices.SortFunc, as the library lays it at this program. -/
namespace Go.Proofs.YtmdpbaobihdgkaaGreatDoor
open Go.RowKit Go.Shelf
def Stb {α : Type} (B : Nat) (J : List α → (Nat → Prop) → World → Prop) : Prop :=
 ∀ pre D W W', J pre D W → Fr (fun b => B ≤ b ∧ ¬ D b) W W' → J pre D W'
def grew (D : Nat → Prop) (W W' : World) : Nat → Prop := fun b => D b ∨ (W.heap.size ≤ b ∧ b < W'.heap.size)
theorem Stb.mono {α : Type} {B B' : Nat} {J : List α → (Nat → Prop) → World → Prop} (h : Stb B J) (hB : B ≤ B') : Stb B' J := fun pre D W W' hj hf =>
 h pre D W W' hj ⟨hf.os, hf.tape, hf.output, hf.size, fun b hb hn => hf.block b hb (fun hx => hn ⟨Nat.le_trans hB hx.1, hx.2⟩)⟩
theorem Fr.wide {ex ey : Nat → Prop} {a b : World} (h : Fr ex a b) (he : ∀ x, x < a.heap.size → ex x → ey x) : Fr ey a b :=
 ⟨h.os, h.tape, h.output, h.size, fun x hx hn => h.block x hx (fun e => hn (he x hx e))⟩
theorem fr_gb {w w' : World} {l : Nat} (h : w.grownBy w' (some l)) : Fr (fun b => b = l) w w' :=
 ⟨h.os, h.tape, h.output, h.size, fun b hb hn => h.block b hb (fun e => hn (Option.some.inj e))⟩
def Itd (n gf : Nat) (lb : Array Value) (all : List Pr) (bs : Nat → Prop) (w : World) : Prop :=
 ∀ (l : Nat) (J Jx : List Pr → (Nat → Prop) → World → Prop) (W : World), Below w.heap.size w W → Stb W.heap.size J → Stb W.heap.size Jx →
  (∀ pre x D W1, J pre D W1 → (∀ b, D b → W.heap.size ≤ b ∧ b < W1.heap.size) → W.heap.size ≤ W1.heap.size → pre.length < all.length →
   YieldAt Fence.wide (n - 1) Tryz.prog l (encP x) W1 fun e W' => Fr (fun b => (b < W.heap.size ∧ ¬ bs b) ∨ D b) W1 W' ∧ ((e = .returned (.bool true) ∧ J (pre ++ [x]) (grew D W1 W') W') ∨ (e = .returned (.bool false) ∧ Jx (pre ++ [x]) (grew D W1 W') W'))) →
  J [] (fun _ => False) W →
  CallsIn Fence.wide n Tryz.prog gf (#[.func (.yield l) #[] #[]] ++ lb) W fun e W' => (∃ v, e = .returned v) ∧ ∃ D, (∀ b, D b → W.heap.size ≤ b) ∧ (J all D W' ∨ ∃ pre, pre <+: all ∧ Jx pre D W')
def postD (B : Nat) (bs : Nat → Prop) (I : List Pr → (Nat → Prop) → World → Prop) (Ix : Code → List Pr → (Nat → Prop) → World → Prop) (D : Nat → Prop) (xs : List Pr) (W : World) : Exit → Act → World → Prop
 | .normal, _, W' => Fr (fun b => (b < B ∧ ¬ bs b) ∨ D b) W W' ∧ I xs (grew D W W') W'
 | .ret, _, W' => Fr (fun b => (b < B ∧ ¬ bs b) ∨ D b) W W' ∧ Ix .ret xs (grew D W W') W'
 | .exit id, _, W' => Fr (fun b => (b < B ∧ ¬ bs b) ∨ D b) W W' ∧ Ix (.exit id) xs (grew D W W') W'
 | .goto t, _, W' => Fr (fun b => (b < B ∧ ¬ bs b) ∨ D b) W W' ∧ Ix (.goto t) xs (grew D W W') W'
 | .panic _, _, _ => False
 | .outgrown, _, _ => False
set_option maxHeartbeats 1000000 in
theorem range_D {g : Operand} {ps : Array Tmp} {assign body : Code} {Q : Exit → Act → World → Prop} {a : Act} {w : World} {n : Nat}
  (h1 : 1 ≤ n) {gf : Nat} {lb : Array Value} (hg : a.eval g = .func (.func gf) #[] lb) (eg : ∀ args w, (callFunc gf args).run Tryz.prog w = .ok (.enter gf args) w)
  {all : List Pr} {bs : Nat → Prop} {w0 : World} (hseq : Itd (n - 1) gf lb all bs w0) (hb0 : Below w0.heap.size w0 w) (hbs : ∀ b, bs b → b < w.heap.size) (hps : ∀ x, (encP x).size = ps.size)
  (I : List Pr → (Nat → Prop) → World → Prop) (Ix : Code → List Pr → (Nat → Prop) → World → Prop) (hI : Stb w.heap.size I) (hIx : ∀ c, Stb w.heap.size (Ix c))
  (hIm : ∀ pre D D' W, I pre D W → (∀ b, D b → D' b) → I pre D' W) (hIxm : ∀ c pre D D' W, Ix c pre D W → (∀ b, D b → D' b) → Ix c pre D' W)
  (h0 : I [] (fun _ => False) w) (Ax : Pr → Act → World → Prop) (hAx : ∀ x a' W W', Ax x a' W → Fr (fun b => b = w.heap.size + 1) W W' → Ax x a' W')
  (hassign : ∀ (l : Nat) (x : Pr) (W : World) (K : Act → World → Prop), w.heap.size + 2 ≤ W.heap.size → (∀ a' W', Fr (fun _ => False) W W' → Ax x a' W' → K a' W') →
   assign.wpIn (Fence.wide.inRound l) (n - 1 - 1) Tryz.prog (Exit.then K (fun _ _ _ => False)) { tmps := (ps.zip (encP x)).foldl (fun t (p, v) => t.setIfInBounds p v) a.tmps, defers := [] } W)
  (hbody : ∀ (l : Nat) (pre : List Pr) (x : Pr) (a' : Act) (D : Nat → Prop) (W : World), (∃ r, W.heap[l]? = some (.loop r)) → I pre D W → Ax x a' W → pre.length < all.length → w.heap.size + 2 ≤ W.heap.size → (∀ b, D b → w.heap.size + 2 ≤ b ∧ b < W.heap.size) →
   body.wpIn (Fence.wide.inRound l) (n - 1 - 1) Tryz.prog (postD w.heap.size bs I Ix D (pre ++ [x]) W) a' W)
  (hdone : ∀ (K : Nat) (D : Nat → Prop) (W : World), w.heap.size ≤ K → I all D W → W.heap[K]? = some (.deferred (some [])) → Q .normal { a with defers := { target := .collected K, args := #[] } :: a.defers } W)
  (hstop : ∀ (K : Nat) (D : Nat → Prop) (c : Code) (pre : List Pr) (W : World), w.heap.size ≤ K → pre <+: all → Ix c pre D W → W.heap[K]? = some (.deferred (some [])) → c.wpIn Fence.wide n Tryz.prog Q { a with defers := { target := .collected K, args := #[] } :: a.defers } W) :
  (Code.rangeFunc g ps assign body).wpIn Fence.wide n Tryz.prog Q a w := by
 refine wpIn_rangeFunc ?_
 intro fn hfn
 rw [show Fence.wide.round = none from rfl]
 obtain ⟨rec, hrec⟩ : ∃ rec : LoopState → Option Code → Loop, rec = fun st pe => { state := st, pending := pe, fn, tmps := a.tmps, params := ps, assign, body, defers := w.heap.size } := ⟨_, rfl⟩
 obtain ⟨W1, hW1⟩ : ∃ W1, (w.alloc (.deferred (some []))).alloc (.loop (rec .ready none)) = W1 := ⟨_, rfl⟩
 have hL1 : W1.heap[w.heap.size + 1]? = some (.loop (rec .ready none)) := by
  rw [← hW1]; have := World.alloc_heap_new (w.alloc (.deferred (some []))) (.loop (rec .ready none)); rwa [World.size_alloc] at this
 have hK1 : W1.heap[w.heap.size]? = some (.deferred (some [])) := by
  rw [← hW1]; exact (Below.heap_alloc _ _ _ (by simp)).trans (World.alloc_heap_new w _)
 have hbw : Below w.heap.size w W1 := by
  rw [← hW1]; exact ((Below.refl _ w).alloc jq0 _).alloc (by simp) _
 have hs1 : W1.heap.size = w.heap.size + 2 := by rw [← hW1]; simp
 have hI1 : I [] (fun _ => False) W1 := hI _ _ _ _ h0 (Fr.of_below hbw)
 have hb1 : Below w0.heap.size w0 W1 := hb0.trans (hbw.mono hb0.size)
 refine ⟨w.heap.size + 1, [{ target := .collected w.heap.size, args := #[] }], W1, { target := .fn (.func gf) lb, args := #[.func (.yield (w.heap.size + 1)) #[] #[]] }, W1, gf,
  #[.func (.yield (w.heap.size + 1)) #[] #[]] ++ lb, W1, ?_, ?_, ?_, ?_, fun _ => h1, ?_⟩
 ·rw [← hW1, hrec]; exact run_enterLoop_outer _ _ _ _ _
 ·simp only [resolve, hg]
  simp [go_sem]
 ·intro f' hf'; simp [Target.leads] at hf'; subst hf'; trivial
 ·simp [invoke, go_sem, eg]
 ·have hst : ∀ {J : List Pr → (Nat → Prop) → World → Prop} (_ : Stb w.heap.size J) (st : LoopState) (pe : Option Code), Stb W1.heap.size (fun pre D W => J pre D W ∧ W.heap[w.heap.size + 1]? = some (.loop (rec st pe)) ∧ W.heap[w.heap.size]? = some (.deferred (some []))) := fun hJ st pe pre D W W' hj hf =>
   ⟨hJ.mono (by omega) pre D W W' hj.1 hf, (hf.block _ (jq4.1 hj.2.1).1 (fun hx => by omega)).trans hj.2.1, (hf.block _ (jq4.1 hj.2.2).1 (fun hx => by omega)).trans hj.2.2⟩
  refine (hseq (w.heap.size + 1)
   (fun pre D W => I pre D W ∧ W.heap[w.heap.size + 1]? = some (.loop (rec .ready none)) ∧ W.heap[w.heap.size]? = some (.deferred (some [])))
   (fun pre D W => ∃ c, Ix c pre D W ∧ W.heap[w.heap.size + 1]? = some (.loop (rec .done (some c))) ∧ W.heap[w.heap.size]? = some (.deferred (some [])))
   W1 hb1 (hst hI .ready none)
   (fun pre D W W' hj hf => by
    obtain ⟨c, hc⟩ := hj
    exact ⟨c, hst (hIx c) .done (some c) pre D W W' hc hf⟩)
   ?_ ⟨hI1, hL1, hK1⟩).mono ?_
  ·-- one round
   rintro pre x D W ⟨hi, hl, hk⟩ hD hsW hlen
   have hlt : w.heap.size + 1 < W.heap.size := (jq4.1 hl).1
   have hy := run_yield (P := Tryz.prog) (args := encP x) hl (by rw [hrec]; exact hps x)
   rw [hrec] at hy
   refine ⟨fn, _, assign, body, hy, roundIn_of_wpIn hfn (hassign _ x W _ (by omega) ?_)⟩
   clear hy
   intro a' Wa hfa hax
   replace hl := (hfa.block _ hlt (fun h => h)).trans hl
   replace hk := (hfa.block _ (by omega) (fun h => h)).trans hk
   have hlta : w.heap.size + 1 < Wa.heap.size := (jq4.1 hl).1
   have hia : I pre D Wa := hI _ _ _ _ hi (hfa.wide (fun _ _ h => h.elim))
   refine ⟨_, run_beginRound hl (by rw [hrec]), ?_⟩
   obtain ⟨Wb, hWb⟩ : ∃ Wb, Wa.putObj (w.heap.size + 1) (.loop { rec .ready none with state := .busy }) = Wb := ⟨_, rfl⟩
   have hfb : Fr (fun b => b = w.heap.size + 1) Wa Wb := by rw [← hWb]; exact fr_gb (grownBy_putObj' Wa _ _)
   have hl2 : Wb.heap[w.heap.size + 1]? = some (.loop { rec .ready none with state := .busy }) := by rw [← hWb]; exact World.putObj_heap_same hlta
   have hk2 : Wb.heap[w.heap.size]? = some (.deferred (some [])) := (hfb.block _ (by omega) (by omega)).trans hk
   have hnD : ¬ D (w.heap.size + 1) := fun h => by have := (hD _ h).1; omega
   have hib : I pre D Wb := hI _ _ _ _ hia (hfb.wide (fun b _ e => by subst e; exact ⟨by omega, hnD⟩))
   have hsa := hfa.size
   have hsb := hfb.size
   have hfx : Fr (fun b => (b < W1.heap.size ∧ ¬ bs b) ∨ D b) W Wb := (hfa.wide (fun _ _ h => h.elim)).trans hfb (fun b _ e => Or.inl ⟨by omega, fun h => by have := hbs b h; omega⟩)
   rw [hWb]
   refine wpIn_mono (hbody _ pre x a' D _ ⟨_, hl2⟩ hib (hAx _ _ _ _ hax hfb) hlen (by omega) (fun b hb => ⟨by have := (hD b hb).1; omega, by have := (hD b hb).2; omega⟩)) ?_
   have fin : ∀ (jump : Option Code) (W3 : World), Fr (fun b => (b < w.heap.size ∧ ¬ bs b) ∨ D b) Wb W3 →
     (Instr.endRound (w.heap.size + 1) jump).run Tryz.prog W3 = .ok (.bool jump.isNone) (W3.putObj (w.heap.size + 1) (.loop (rec (if jump.isNone then .ready else .done) jump))) ∧
     (W3.putObj (w.heap.size + 1) (.loop (rec (if jump.isNone then .ready else .done) jump))).heap[w.heap.size + 1]? = some (.loop (rec (if jump.isNone then .ready else .done) jump)) ∧
     (W3.putObj (w.heap.size + 1) (.loop (rec (if jump.isNone then .ready else .done) jump))).heap[w.heap.size]? = some (.deferred (some [])) ∧
     Fr (fun b => b = w.heap.size + 1) W3 (W3.putObj (w.heap.size + 1) (.loop (rec (if jump.isNone then .ready else .done) jump))) ∧
     Fr (fun b => (b < W1.heap.size ∧ ¬ bs b) ∨ D b) W (W3.putObj (w.heap.size + 1) (.loop (rec (if jump.isNone then .ready else .done) jump))) ∧
     (∀ (J : List Pr → (Nat → Prop) → World → Prop) (xs : List Pr), Stb w.heap.size J → (∀ pre D D' W, J pre D W → (∀ b, D b → D' b) → J pre D' W) → J xs (grew D Wb W3) W3 → J xs (grew D W (W3.putObj (w.heap.size + 1) (.loop (rec (if jump.isNone then .ready else .done) jump)))) (W3.putObj (w.heap.size + 1) (.loop (rec (if jump.isNone then .ready else .done) jump)))) := fun jump W3 hk3 => by
    have hl3 := (hk3.block _ (by omega) (fun hx => hx.elim (fun h => by omega) hnD)).trans hl2
    have hk4 := (hk3.block w.heap.size (by omega) (fun hx => hx.elim (fun h => by omega) (fun h => by have := (hD _ h).1; omega))).trans hk2
    have hr := run_endRound (P := Tryz.prog) jump hl3
    rw [hrec] at hr ⊢
    have hs3 := hk3.size
    have hlt3 : w.heap.size + 1 < W3.heap.size := (jq4.1 hl3).1
    have hf4 : ∀ o, Fr (fun b => b = w.heap.size + 1) W3 (W3.putObj (w.heap.size + 1) o) := fun o => fr_gb (grownBy_putObj' W3 _ _)
    refine ⟨hr, World.putObj_heap_same hlt3, ((hf4 _).block _ (by omega) (by omega)).trans hk4, hf4 _, (hfx.trans hk3 (fun b _ hb => hb.imp (fun h => ⟨by omega, h.2⟩) id)).trans (hf4 _) (fun b _ e => Or.inl ⟨by omega, fun h => by have := hbs b h; omega⟩), fun J xs hJ hJm hj => ?_⟩
    have hs4 : ∀ o, W3.heap.size ≤ (W3.putObj (w.heap.size + 1) o).heap.size := fun o => (hf4 o).size
    refine hJ _ _ _ _ (hJm _ _ (grew D W _) _ hj (fun b hb => hb.imp id (fun h => ⟨by omega, Nat.lt_of_lt_of_le h.2 (hs4 _)⟩))) ((hf4 _).wide (fun b _ e => ?_))
    subst e
    refine ⟨by omega, fun hg => ?_⟩
    rcases hg with h | h
    ·exact hnD h
    ·omega
   rintro e a3 W3 hp
   cases e with
   | normal =>
    obtain ⟨hk3, hi3⟩ := hp
    obtain ⟨hr, hl4, hk4, _, hf5, hJ⟩ := fin none W3 hk3
    exact ⟨_, _, hr, hf5, .inl ⟨rfl, hJ I _ hI hIm hi3, hl4, hk4⟩⟩
   | ret =>
    obtain ⟨hk3, hi3⟩ := hp
    obtain ⟨hr, hl4, hk4, _, hf5, hJ⟩ := fin (some .ret) W3 hk3
    exact ⟨_, _, hr, hf5, .inr ⟨rfl, .ret, hJ _ _ (hIx _) (hIxm _) hi3, hl4, hk4⟩⟩
   | exit id =>
    obtain ⟨hk3, hi3⟩ := hp
    obtain ⟨hr, hl4, hk4, _, hf5, hJ⟩ := fin (some (.exit id)) W3 hk3
    exact ⟨_, _, hr, hf5, .inr ⟨rfl, .exit id, hJ _ _ (hIx _) (hIxm _) hi3, hl4, hk4⟩⟩
   | goto t =>
    obtain ⟨hk3, hi3⟩ := hp
    obtain ⟨hr, hl4, hk4, _, hf5, hJ⟩ := fin (some (.goto t)) W3 hk3
    exact ⟨_, _, hr, hf5, .inr ⟨rfl, .goto t, hJ _ _ (hIx _) (hIxm _) hi3, hl4, hk4⟩⟩
   | panic ch => exact hp.elim
   | outgrown => exact hp.elim
  ·-- behind the iterator
   rintro e W2 ⟨⟨v, rfl⟩, D, hD, (⟨hi, hl, hk⟩ | ⟨pre, hSp, c, hi, hl, hk⟩)⟩
   ·refine ⟨none, _, by have := run_endLoop (P := Tryz.prog) hl (by rw [hrec]; simp); rw [hrec] at this; exact this, hdone _ D _ jq0 (hI _ _ _ _ hi ((fr_gb (grownBy_putObj' W2 _ _)).wide (fun b _ e => ⟨by omega, fun h => by have := hD b h; omega⟩))) ((World.putObj_heap_other (by omega)).trans hk)⟩
   ·refine ⟨some c, _, by have := run_endLoop (P := Tryz.prog) hl (by rw [hrec]; simp); rw [hrec] at this; exact this, hstop _ D c pre _ jq0 hSp (hIx c _ _ _ _ hi ((fr_gb (grownBy_putObj' W2 _ _)).wide (fun b _ e => ⟨by omega, fun h => by have := hD b h; omega⟩))) ((World.putObj_heap_other (by omega)).trans hk)⟩
end Go.Proofs.YtmdpbaobihdgkaaGreatDoor
namespace Go.Proofs
open Go.Shelf
def Tryz.sortL_ren : Go.Shelf.Ren := ⟨fun | 6 => 82 | 15 => 88 | 14 => 110 | 28 => 122 | 29 => 123 | 20 => 134 | 21 => 135 | 22 => 136 | 23 => 137 | 24 => 138 | 25 => 139 | 26 => 140 | 27 => 141 | 46 => 148 | 47 => 144 | 48 => 145 | 49 => 149 | 50 => 150 | 57 => 152 | n => n, fun | 22 => 29 | 24 => 3 | 25 => 97 | 3 => 3 | 39 => 138 | 0 => 0 | 53 => 170 | 55 => 48 | 4 => 4 | 46 => 164 | 45 => 163 | 50 => 157 | 5 => 5 | 9 => 9 | 66 => 181 | 70 => 142 | 76 => 189 | 77 => 190 | n => n, fun | n => n⟩
theorem Tryz.sortL : Go.Proofs.SlLaysF.n6 Tryz.prog Tryz.sortL_ren := {
 mixed := by kernel_rfl
 f6 := ⟨Tryz.f82.name, by decide, Tryz.func82.trans (congrArg some (by kernel_rfl))⟩
 f14 := ⟨Tryz.f110.name, by decide, Tryz.func110.trans (congrArg some (by kernel_rfl))⟩
 f15 := Tryz.func88.trans (congrArg some (by kernel_rfl))
 f20 := ⟨Tryz.f134.name, by decide, Tryz.func134.trans (congrArg some (by kernel_rfl))⟩
 f21 := ⟨Tryz.f135.name, by decide, Tryz.func135.trans (congrArg some (by kernel_rfl))⟩
 f22 := ⟨Tryz.f136.name, by decide, Tryz.func136.trans (congrArg some (by kernel_rfl))⟩
 f23 := ⟨Tryz.f137.name, by decide, Tryz.func137.trans (congrArg some (by kernel_rfl))⟩
 f24 := ⟨Tryz.f138.name, by decide, Tryz.func138.trans (congrArg some (by kernel_rfl))⟩
 f25 := ⟨Tryz.f139.name, by decide, Tryz.func139.trans (congrArg some (by kernel_rfl))⟩
 f26 := ⟨Tryz.f140.name, by decide, Tryz.func140.trans (congrArg some (by kernel_rfl))⟩
 f27 := ⟨Tryz.f141.name, by decide, Tryz.func141.trans (congrArg some (by kernel_rfl))⟩
 f28 := Tryz.func122.trans (congrArg some (by kernel_rfl))
 f29 := Tryz.func123.trans (congrArg some (by kernel_rfl))
 f46 := ⟨Tryz.f148.name, by decide, Tryz.func148.trans (congrArg some (by kernel_rfl))⟩
 f47 := Tryz.func144.trans (congrArg some (by kernel_rfl))
 f48 := Tryz.func145.trans (congrArg some (by kernel_rfl))
 f49 := ⟨Tryz.f149.name, by decide, Tryz.func149.trans (congrArg some (by kernel_rfl))⟩
 f50 := ⟨Tryz.f150.name, by decide, Tryz.func150.trans (congrArg some (by kernel_rfl))⟩
 f57 := ⟨Tryz.f152.name, by decide, Tryz.func152.trans (congrArg some (by kernel_rfl))⟩
 t0 := Tryz.underlying0
 a0 := Tryz.isAgg0
 z0 := Tryz.sizeOf0
 v0 := Tryz.zeroValue0
 t3 := Tryz.underlying3
 a3 := Tryz.isAgg3
 z3 := Tryz.sizeOf3
 v3 := Tryz.zeroValue3
 t4 := Tryz.underlying4
 a4 := Tryz.isAgg4
 z4 := Tryz.sizeOf4
 v4 := Tryz.zeroValue4
 t5 := Tryz.underlying5
 a5 := Tryz.isAgg5
 z5 := Tryz.sizeOf5
 v5 := Tryz.zeroValue5
 t9 := Tryz.underlying9
 a9 := Tryz.isAgg9
 z9 := Tryz.sizeOf9
 v9 := Tryz.zeroValue9
 t22 := Tryz.underlying29
 a22 := Tryz.isAgg29
 z22 := Tryz.sizeOf29
 v22 := Tryz.zeroValue29
 a24 := Tryz.isAgg3
 z24 := Tryz.sizeOf3
 t25 := Tryz.underlying97
 a25 := Tryz.isAgg97
 z25 := Tryz.sizeOf97
 v25 := Tryz.zeroValue97
 t39 := Tryz.underlying138
 a39 := Tryz.isAgg138
 z39 := Tryz.sizeOf138
 v39 := Tryz.zeroValue138
 t45 := Tryz.underlying163
 a45 := Tryz.isAgg163
 z45 := Tryz.sizeOf163
 v45 := Tryz.zeroValue163
 t46 := Tryz.underlying164
 a46 := Tryz.isAgg164
 z46 := Tryz.sizeOf164
 v46 := Tryz.zeroValue164
 t50 := Tryz.underlying157
 a50 := Tryz.isAgg157
 z50 := Tryz.sizeOf157
 v50 := Tryz.zeroValue157
 t53 := Tryz.underlying170
 a53 := Tryz.isAgg170
 z53 := Tryz.sizeOf170
 v53 := Tryz.zeroValue170
 t55 := Tryz.underlying48
 a55 := Tryz.isAgg48
 z55 := Tryz.sizeOf48
 v55 := Tryz.zeroValue48
 t66 := Tryz.underlying181
 a66 := Tryz.isAgg181
 z66 := Tryz.sizeOf181
 v66 := Tryz.zeroValue181
 t70 := Tryz.underlying142
 a70 := Tryz.isAgg142
 z70 := Tryz.sizeOf142
 v70 := Tryz.zeroValue142
 t76 := Tryz.underlying189
 a76 := Tryz.isAgg189
 z76 := Tryz.sizeOf189
 v76 := Tryz.zeroValue189
 t77 := Tryz.underlying190
 a77 := Tryz.isAgg190
 z77 := Tryz.sizeOf190
 v77 := Tryz.zeroValue190 }
end Go.Proofs
