/- A marking as a map's key. -/
import Derived.Maps.OwnSet
import Derived.Maps.OwnOps
import Derived.Deep.MidRow
import Derived.WideKeyArr2
import Derived.Laws.CopyOwn
import Derived.Test.YthpbgfodejoecaaExpl2
namespace Go.Proofs.Ythpbgfodejoecaa
open Go.RowKit Go.Maps

/-- The key's cells. -/
def kyf (F : Nat) (Z : Nat → Int) (i : Nat) : Value := .int .u8 (if i < F then Z i else 0)
def kyl (F : Nat) (Z : Nat → Int) : List Value := (List.range 30).map (kyf F Z)
def kyv (F : Nat) (Z : Nat → Int) : Value := .agg (kyl F Z).toArray

theorem kyl_len (F : Nat) (Z : Nat → Int) : (kyl F Z).length = 30 := by simp [kyl]
theorem kyl_get {F : Nat} {Z : Nat → Int} {i : Nat} (hi : i < 30) : (kyl F Z)[i]? = some (kyf F Z i) := by simp [kyl, hi]

theorem kyv_inj {F : Nat} {Y Z : Nat → Int} (hF : F ≤ 30) (h : kyv F Y = kyv F Z) : ∀ i, i < F → Y i = Z i := by
  intro i hi
  have e : kyl F Y = kyl F Z := by
    simp only [kyv, Value.agg.injEq] at h
    simpa using congrArg Array.toList h
  have := congrArg (fun l => l[i]?) e
  simp only [kyl_get (show i < 30 by omega), kyf, if_pos hi, Option.some.injEq, Value.int.injEq, true_and] at this
  exact this

theorem Try.arrKey : Go.WideMaps.ArrKey Try.prog 149 5 30 := ⟨Try.underlying149, by kernel_rfl, by kernel_rfl, by kernel_rfl⟩
theorem Try.keyed : Keyed Try.prog 149 := Keyed.of_law Try.arrKey.law

theorem mapM_some {α β : Type} {f : α → Option β} : ∀ {l : List α}, (∀ x ∈ l, ∃ y, f x = some y) → ∃ ys, l.mapM f = some ys
  | [], _ => ⟨[], rfl⟩
  | x :: l, h => by
    obtain ⟨y, hy⟩ := h x (by simp)
    obtain ⟨ys, hys⟩ := mapM_some (l := l) (fun z hz => h z (by simp [hz]))
    exact ⟨y :: ys, by rw [List.mapM_cons, hy, hys]; rfl⟩

theorem key_some {F : Nat} {Z : Nat → Int} (h9 : ∀ i, i < F → 0 ≤ Z i ∧ Z i ≤ 9) : ∃ kl, keyOf Try.prog 149 (kyv F Z) = some kl := by
  have hsz : ∃ m, Try.prog.types.size = m + 1 := ⟨Try.prog.types.size - 1, by
    have : 0 < Try.prog.types.size := of_decide_eq_true (by kernel_rfl)
    omega⟩
  have hkt := Try.arrKey.keyType hsz
  obtain ⟨m0, hm0⟩ := hsz
  have hlen : (kyl F Z).length = Try.prog.cellsOf 149 := by rw [Try.arrKey.size, kyl_len]
  unfold keyOf kyv
  simp only [Try.underlying149]
  rw [if_pos (by simp [hkt, Value.formed, Try.underlying149, Try.arrKey.size, kyl_len]), hm0]
  unfold Program.keyLits
  simp only [Try.underlying149, Value.cells]
  rw [if_pos (by simpa using hlen)]
  obtain ⟨ys, hys⟩ := mapM_some (f := fun i => Try.prog.keyLits (m0 + 1) 5 (((kyl F Z).drop (i * Try.prog.cellsOf 5)).take (Try.prog.cellsOf 5))) (l := List.range 30) (fun i hi => by
    have hi' : i < 30 := List.mem_range.1 hi
    rw [Try.arrKey.one, Nat.mul_one]
    have e : ((kyl F Z).drop i).take 1 = [kyf F Z i] := by
      have hl : i < (kyl F Z).length := by rw [kyl_len]; exact hi'
      rw [List.drop_eq_getElem_cons hl]
      have := kyl_get (F := F) (Z := Z) hi'
      rw [List.getElem?_eq_getElem hl] at this
      simp only [Option.some.injEq] at this
      simp [this]
    rw [e]
    unfold Program.keyLits kyf
    simp only [Try.underlying5]
    refine ⟨_, if_pos ⟨trivial, ?_⟩⟩
    by_cases hiF : i < F
    · rw [if_pos hiF]
      have := h9 i hiF
      simp [Lit.wf, IntKind.min, IntKind.max, IntKind.signed, IntKind.bits]
      omega
    · rw [if_neg hiF]
      decide)
  refine ⟨.string (keyBytes ys.flatten), ?_⟩
  simp only [hys]
  rfl

theorem load_row {w : World} {g : Nat} {cs : Array Value} (hg : w.heap[g]? = some (.cells cs 149 (0, 0))) (hs : cs.size = 30) : (Instr.loadAt 149 (.pointer (some ⟨g, 0, none⟩))).run Try.prog w = .ok (.agg cs) w := by
  have hi : (Try.prog.info? 149).map (·.size) = some cs.size := by rw [hs]; kernel_rfl
  simp only [Instr.loadAt, Instr.sureAddr, Sem.run_bind, Sem.run_pure, Result.andThen_ok, run_loadVar_row w g 149 149 cs (0, 0) _ hg Try.underlying149 rfl hi]

theorem store_row {w : World} {g : Nat} {old cs : Array Value} (hg : w.heap[g]? = some (.cells old 149 (0, 0))) (ho : old.size = 30) (hs : cs.size = 30) (h1 : cs.all (·.oneCell') = true) :
    (Instr.storeAt 149 (.pointer (some ⟨g, 0, none⟩)) (.agg cs)).run Try.prog w = .ok () (w.setRow g cs) := by
  have hi : (Try.prog.info? 149).map (·.size) = some cs.size := by rw [hs]; kernel_rfl
  simp only [Instr.storeAt, Instr.sureAddr, Sem.run_bind, Sem.run_pure, Result.andThen_ok, run_storeVar_row w g 149 149 old cs hg hi (by omega) h1]

theorem wpList_load118 {ops : Array Oper} {rest : List Oper} {op : Oper} {a : Act} {w : World} {Q : Exit → Act → World → Prop} (hgd : op.guard = none) (x : Operand) (ho : op.op = .load 149 x) (g : Nat) (hx : a.eval x = .pointer (some ⟨g, 0, none⟩)) (cs : Array Value)
    (hg : w.heap[g]? = some (.cells cs 149 (0, 0))) (hs : cs.size = 30) (h : wpList Try.prog ops Q rest (a.put op.dst (.agg cs)) w) : wpList Try.prog ops Q (op :: rest) a w :=
  wpList_plain hgd fun _ hK => by
    unfold Oper.wp execOp
    simp only [ho, hx, Sem.run_bind, Sem.run_pure, Result.andThen_ok, load_row hg hs]
    exact hK _ _ h

theorem wpList_store118 {ops : Array Oper} {rest : List Oper} {op : Oper} {a : Act} {w : World} {Q : Exit → Act → World → Prop} (hgd : op.guard = none) (x y : Operand) (ho : op.op = .store 149 x y) (g : Nat) (cs : Array Value) (hx : a.eval x = .pointer (some ⟨g, 0, none⟩)) (hy : a.eval y = .agg cs) (old : Array Value)
    (hg : w.heap[g]? = some (.cells old 149 (0, 0))) (h0 : old.size = 30) (hs : cs.size = 30) (h1 : cs.all (·.oneCell') = true) (h : wpList Try.prog ops Q rest (a.put op.dst undef) (w.setRow g cs)) : wpList Try.prog ops Q (op :: rest) a w :=
  wpList_plain hgd fun _ hK => by
    unfold Oper.wp execOp
    simp only [ho, hx, hy, Sem.run_bind, Sem.run_pure, Result.andThen_ok, store_row hg h0 hs h1]
    exact hK _ _ h

theorem row_arr {w : World} {g : Nat} {F : Nat} {Z : Nat → Int} (h : w.rowIs g 149 30 (kyf F Z)) : w.heap[g]? = some (.cells (kyl F Z).toArray 149 (0, 0)) := by
  obtain ⟨c, h1, h2, h3⟩ := h
  have e : c = (kyl F Z).toArray := by
    apply Array.ext_getElem?
    intro i
    by_cases hi : i < 30
    · rw [h3 i hi]
      simp [kyl_get hi]
    · rw [Array.getElem?_eq_none (by omega), Array.getElem?_eq_none (by simp [kyl_len]; omega)]
  rw [h1, e]

theorem kyl_one (F : Nat) (Z : Nat → Int) : (kyl F Z).toArray.all (·.oneCell') = true := all_oneCell_toArray (fun v hv => by
  obtain ⟨i, _, rfl⟩ := List.mem_map.1 hv
  rfl)

/-- What keyOf has laid till flow k. -/
structure Kyd (w wr : World) (F : Nat) (Z : Nat → Int) (k : Nat) : Prop where
  below : Below w.heap.size w wr
  zero : wr.rowIs w.heap.size 149 30 (fun _ => .int .u8 0)
  row : wr.rowIs (w.heap.size + 1) 149 30 (fun i => .int .u8 (if i < k then Z i else 0))

def Z30 : Array Value := #[.int .u8 0, .int .u8 0, .int .u8 0, .int .u8 0, .int .u8 0, .int .u8 0, .int .u8 0, .int .u8 0, .int .u8 0, .int .u8 0, .int .u8 0, .int .u8 0, .int .u8 0, .int .u8 0, .int .u8 0, .int .u8 0, .int .u8 0, .int .u8 0, .int .u8 0, .int .u8 0, .int .u8 0, .int .u8 0, .int .u8 0, .int .u8 0, .int .u8 0, .int .u8 0, .int .u8 0, .int .u8 0, .int .u8 0, .int .u8 0]

theorem z30_row (w : World) : (w.alloc (.cells Z30 149)).rowIs w.heap.size 149 30 (fun _ => .int .u8 0) := by
  refine ⟨Z30, Go.Deep.blk_alloc_new _ _, rfl, fun i hi => ?_⟩
  have h : ∀ j, j < 30 → Z30[j]? = some (.int .u8 0) := by
    have e : Z30 = Array.replicate 30 (.int .u8 0) := rfl
    intro j hj
    rw [e]
    simp [hj]
  exact h i hi

theorem kyd_start (w : World) (F : Nat) (Z : Nat → Int) : Kyd w ((w.alloc (.cells Z30 149)).alloc (.cells Z30 149)) F Z 0 := by
  refine ⟨(box_below _ _).trans ((box_below _ _).mono (by simp)), (z30_row w).alloc _, ?_⟩
  have := z30_row (w.alloc (.cells Z30 149))
  have e : (w.alloc (.cells Z30 149)).heap.size = w.heap.size + 1 := by simp
  rw [e] at this
  exact this.congr (fun i _ => by simp)

theorem Kyd.next {w wr : World} {F : Nat} {Z : Nat → Int} {k : Nat} (h : Kyd w wr F Z k) : Kyd w (wr.setCell ⟨w.heap.size + 1, k, none⟩ (.int .u8 (Z k))) F Z (k + 1) := by
  refine ⟨h.below.setCell (by show w.heap.size ≤ w.heap.size + 1; omega) _, ?_, ?_⟩
  · obtain ⟨c, h1, h2⟩ := h.zero
    exact ⟨c, (Below.heap_setCell _ _ _ _ (by show w.heap.size ≠ w.heap.size + 1; omega)).trans h1, h2⟩
  · refine (h.row.set k _).congr (fun i _ => ?_)
    by_cases e : i = k
    · subst e
      simp
    · by_cases e2 : i < k
      · simp [e, e2, Nat.lt_succ_of_lt e2]
      · simp [e, e2, show ¬ i < k + 1 by omega]

set_option maxRecDepth 20000 in
set_option maxHeartbeats 1000000 in
theorem keyOf_any (a : Option Addr) (F c : Nat) (Z : Nat → Int) (w : World) (hF : F ≤ 30) (h9 : ∀ i, i < F → 0 ≤ Z i ∧ Z i ≤ 9) (h : Row w a F Z) :
    Calls Try.prog 97 #[.slice a F c] w fun e w' => e = .returned (kyv F Z) ∧ Below w.heap.size w w' := by
  obtain ⟨b, o, ha, hc⟩ := h
  have HC : Hid (∀ i, i < F → w.cell? ⟨b, o + i, none⟩ = some (.int .i64 (Z i))) := hc
  have H9 : Hid (∀ i, i < F → 0 ≤ Z i ∧ Z i ≤ 9) := h9
  clear hc h9
  have HS : Hid (Kyd w ((w.alloc (.cells Z30 149)).alloc (.cells Z30 149)) F Z 0) := kyd_start w F Z
  go_enter Try.func97, Try.ntmps97
  go_wp2
  go_loopw [8] (fun i wr => ∃ k : Nat, k ≤ F ∧ i = .int .i64 k ∧ Hid (Kyd w wr F Z k)) (fun i _ => F - (intOf i).toNat)
  case atStart => exact ⟨0, Nat.zero_le _, rfl, HS.out⟩
  case round =>
    obtain ⟨k, hk, rfl, HT⟩ := hrel
    clear HS
    by_cases hlt : k < F
    · obtain rfl := ha (by omega)
      have hck := row_at HC.out HT.out.below hlt
      have hz := H9.out k hlt
      have hw8 : IntKind.u8.wrap (Z k) = Z k := by rw [IntKind.wrap_u8]; omega
      have hk30 : (k : Int) < 30 := by omega
      have hck2 : wr.cell? ⟨w.heap.size + 1, k, none⟩ = some (.int .u8 (if k < k then Z k else 0)) := HT.out.row.cell (by omega)
      rw [if_neg (Nat.lt_irrefl k)] at hck2
      have hfr := HT.out.row.frozen k
      have HN : Hid (Kyd w (wr.setCell ⟨w.heap.size + 1, k, none⟩ (.int .u8 (Z k))) F Z (k + 1)) := HT.out.next
      clear HT
      go_wp2
      go_roundw
      case rel => exact ⟨k + 1, by omega, by go_num, HN.out⟩
      case measure => simp [intOf]; omega
    · obtain rfl : F = k := by omega
      have hr := row_arr (F := F) (Z := Z) HT.out.row
      obtain ⟨old, ho1, ho2, _⟩ := HT.out.zero
      have HR : Hid (wr.heap[w.heap.size + 1]? = some (.cells (kyl F Z).toArray 149 (0, 0)) ∧ wr.heap[w.heap.size]? = some (.cells old 149 (0, 0)) ∧ old.size = 30 ∧ (kyl F Z).toArray.size = 30) := ⟨hr, ho1, ho2, by simp [kyl_len]⟩
      have HX : Hid ((wr.setRow w.heap.size (kyl F Z).toArray).heap[w.heap.size]? = some (.cells (kyl F Z).toArray 149 (0, 0)) ∧ Below w.heap.size w (wr.setRow w.heap.size (kyl F Z).toArray)) := ⟨setRow_heap _ _ _ _ _ _ ho1, below_setRow HT.out.below (Nat.le_refl _) _⟩
      clear HT hr ho1 ho2
      go_wp2_with (first | (refine wpList_load118 rfl _ rfl (w.heap.size + 1) rfl (kyl F Z).toArray HR.out.1 HR.out.2.2.2 ?_) | (refine wpList_store118 rfl _ _ rfl w.heap.size (kyl F Z).toArray rfl rfl old HR.out.2.1 HR.out.2.2.1 HR.out.2.2.2 (kyl_one F Z) ?_))
      (try simp only [Exit.inBlock, Exit.then])
      refine bodyPost_ret (results_cell_row rfl _ _ w.heap.size 149 (kyl F Z).toArray (0, 0) _ rfl HX.out.1 Try.underlying149 rfl (by simp only [List.size_toArray, kyl_len]; kernel_rfl)) rfl ?_
      exact ⟨rfl, HX.out.2⟩

end Go.Proofs.Ythpbgfodejoecaa
