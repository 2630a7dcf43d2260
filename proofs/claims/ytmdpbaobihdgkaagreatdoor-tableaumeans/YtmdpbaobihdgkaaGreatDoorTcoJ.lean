/-   -/
import Derived.Lib.AppendZeros
import Derived.Test.YtmdpbaobihdgkaaGreatDoorTeaJ
import Derived.Test.YtmdpbaobihdgkaaGreatDoorApp
/- tableau: two lists of parts, one behind the other (slices.Concat). -/
/- tableau: slices.Concat of two lists of parts. -/
namespace Go.Proofs.YtmdpbaobihdgkaaGreatDoor
open Go.RowKit

theorem Ro.fn {w0 w : World} {a : Option Addr} {l : List Fml} (h : Ro w0 w a l) : ∃ b o, (0 < l.length → a = some ⟨b, o, none⟩) ∧ ∃ (A : Nat → Option Addr) (C : Nat → Nat), ∀ i, i < l.length →
    w.cell? ⟨b, o + i * 3, none⟩ = some (.int .i64 (lf l i).kind) ∧ w.cell? ⟨b, o + i * 3 + 1, none⟩ = some (.int .i64 (lf l i).num) ∧ w.cell? ⟨b, o + i * 3 + 2, none⟩ = some (.slice (A i) (lf l i).cnt (C i)) ∧ (lf l i).cnt ≤ 9223372036854775807 ∧ Kds w0 (lf l i) (A i) := by
  obtain ⟨b, o, h1, h2⟩ := h
  have h3 : ∀ i, ∃ p : Option Addr × Nat, i < l.length → w.cell? ⟨b, o + i * 3, none⟩ = some (.int .i64 (lf l i).kind) ∧ w.cell? ⟨b, o + i * 3 + 1, none⟩ = some (.int .i64 (lf l i).num) ∧ w.cell? ⟨b, o + i * 3 + 2, none⟩ = some (.slice p.1 (lf l i).cnt p.2) ∧ (lf l i).cnt ≤ 9223372036854775807 ∧ Kds w0 (lf l i) p.1 := fun i => by
    by_cases hi : i < l.length
    · obtain ⟨ai, ci, q⟩ := h2 i hi
      exact ⟨(ai, ci), fun _ => q⟩
    · exact ⟨(none, 0), fun q => absurd q hi⟩
  obtain ⟨f, hf⟩ := Classical.axiomOfChoice h3
  exact ⟨b, o, h1, fun i => (f i).1, fun i => (f i).2, hf⟩

theorem Ro.below {w0 w w' : World} {a : Option Addr} {l : List Fml} (h : Ro w0 w a l) (hb : Below w.heap.size w w') : Ro w0 w' a l := by
  obtain ⟨b, o, h1, h2⟩ := h
  refine ⟨b, o, h1, fun i hi => ?_⟩
  obtain ⟨ai, ci, e1, e2, e3, e4⟩ := h2 i hi
  exact ⟨ai, ci, below_cell hb (Nat.le_refl _) e1, below_cell hb (Nat.le_refl _) e2, below_cell hb (Nat.le_refl _) e3, e4⟩

theorem kvs_one {r : Nat → Fml} {A : Nat → Option Addr} {C : Nat → Nat} : ∀ n, ∀ u ∈ kvs r A C n, u.oneCell' = true
  | 0, u, h => by cases h
  | n + 1, u, h => by
    rw [kvs, List.mem_append] at h
    rcases h with h | h
    · exact kvs_one n u h
    · simp at h
      rcases h with rfl | rfl | rfl <;> rfl

def catG {α : Type} (n : Nat) (f g : Nat → α) (i : Nat) : α := if i < n then f i else g (i - n)

theorem kvs_cat {r r2 : Nat → Fml} {A A2 : Nat → Option Addr} {C C2 : Nat → Nat} {n : Nat} : ∀ m, kvs (catG n r r2) (catG n A A2) (catG n C C2) (n + m) = kvs r A C n ++ kvs r2 A2 C2 m
  | 0 => by
    rw [Nat.add_zero, kvs, List.append_nil]
    have : ∀ j, j ≤ n → kvs (catG n r r2) (catG n A A2) (catG n C C2) j = kvs r A C j := by
      intro j
      induction j with
      | zero => intro _; rfl
      | succ j ih =>
        intro hj
        have hlt : j < n := by omega
        simp only [kvs, ih (by omega), catG, if_pos hlt]
    exact this n (Nat.le_refl _)
  | m + 1 => by
    rw [← Nat.add_assoc, kvs, kvs_cat m, kvs, List.append_assoc]
    have h1 : ¬ n + m < n := by omega
    simp only [catG, if_neg h1, Nat.add_sub_cancel_left]

theorem lf_cat (l1 l2 : List Fml) (i : Nat) (_h : i < l1.length + l2.length) : lf (l1 ++ l2) i = catG l1.length (lf l1) (lf l2) i := by
  unfold lf catG
  simp only [List.getD_eq_getElem?_getD]
  by_cases e : i < l1.length
  · rw [if_pos e, List.getElem?_append_left e]
  · rw [if_neg e, List.getElem?_append_right (by omega)]

theorem El.cat {w0 w' : World} {base : Nat} {l1 l2 : List Fml} {A A2 : Nat → Option Addr} {C C2 : Nat → Nat} {v : Value}
    (h1 : ∀ i, i < l1.length → Kds w0 (lf l1 i) (A i) ∧ (lf l1 i).cnt ≤ 9223372036854775807) (h2 : ∀ i, i < l2.length → Kds w0 (lf l2 i) (A2 i) ∧ (lf l2 i).cnt ≤ 9223372036854775807)
    (ho : w'.ownsRow base 24 3 v (l1.length + l2.length) (kvs (lf l1) A C l1.length ++ kvs (lf l2) A2 C2 l2.length)) : El w0 w' base (l1 ++ l2).length (lf (l1 ++ l2)) v := by
  rw [List.length_append]
  have h : El w0 w' base (l1.length + l2.length) (catG l1.length (lf l1) (lf l2)) v := by
    refine ⟨catG l1.length A A2, catG l1.length C C2, by rw [kvs_cat]; exact ho, fun i hi => ?_⟩
    by_cases e : i < l1.length
    · simp only [catG, if_pos e]; exact h1 i e
    · simp only [catG, if_neg e]; exact h2 _ (by omega)
  exact h.congr (fun i hi => (lf_cat l1 l2 i hi).symm)

/-- 'append(v, s...)' of formulas, s a slice of whatever memory, nil too. -/
theorem wpList_append_listF {w0 : World} (w : World) {ops : Array Oper} {rest : List Oper} {o : Oper} {a : Act} {Q : Exit → Act → World → Prop} (hgd : o.guard = none) (s x : Operand)
    (ho : o.op = .call { callee := .builtin .append, args := #[s, x], argTypes := #[22, 22] })
    (base : Nat) (i : TypeInfo) (hi : Tryz.prog.info? 24 = some i) (hz : i.zero = some (.agg #[.int .i64 0, .int .i64 0, .slice none 0 0])) (hsize : i.size = 3) (hby : i.bytes = 40)
    (v : Value) (l l2 : List Fml) (hs : a.eval s = v) (hown : El w0 w base l.length (lf l) v)
    (b : Option Addr) (d : Nat) (hx : a.eval x = .slice b l2.length d) (hrow : Ro w0 w b l2) (hnil : b = none → d = 0) (hsum : l.length + l2.length ≤ 4000) (hbase : base ≤ w.heap.size)
    (h : ∀ v' w', El w0 w' base (l ++ l2).length (lf (l ++ l2)) v' → w.grownBy w' v.ownBlock → wpList Tryz.prog ops Q rest (a.put o.dst v') w') :
    wpList Tryz.prog ops Q (o :: rest) a w := by
  obtain ⟨A, C, hw1, hw2⟩ := hown.list
  obtain ⟨bb, oo, h1, A2, C2, h2⟩ := hrow.fn
  cases b with
  | some ad =>
    have hnews : ∀ j u, (kvs (lf l2) A2 C2 l2.length)[j]? = some u → w.cell? (ad.add j) = some u := fun j u hj => by
      have hlt : j < l2.length * 3 := by
        have := (List.getElem?_eq_some_iff.1 hj).1
        rwa [kvs_len] at this
      have hq : j / 3 < l2.length := by omega
      have had := h1 (by omega)
      obtain rfl := Option.some.inj had
      obtain ⟨e1, e2, e3⟩ := kvs_at (lf l2) A2 C2 (j / 3) l2.length hq
      obtain ⟨c1, c2, c3, _, _⟩ := h2 _ hq
      rw [addr_none]
      have hr : j = j / 3 * 3 ∨ j = j / 3 * 3 + 1 ∨ j = j / 3 * 3 + 2 := by omega
      rcases hr with q | q | q
      · rw [q, e1] at hj
        rw [← Option.some.inj hj, show oo + j = oo + j / 3 * 3 by omega]; exact c1
      · rw [q, e2] at hj
        rw [← Option.some.inj hj, show oo + j = oo + j / 3 * 3 + 1 by omega]; exact c2
      · rw [q, e3] at hj
        rw [← Option.some.inj hj, show oo + j = oo + j / 3 * 3 + 2 by omega]; exact c3
    refine wpList_append_own w hgd s x 22 ho base 24 i _ 3 40 Tryz.underlying22 hi hz hsize hby rfl (by decide) v l.length _ hs hw1 ad l2.length d (kvs (lf l2) A2 C2 l2.length) hx (kvs_len _ _ _ _) hnews (kvs_one _) (by unfold maxLen; omega) (by omega) hbase ?_
    intro v' w' g1 g2 _
    exact h v' w' (El.cat hw2 (fun i hi => ⟨(h2 i hi).2.2.2.2, (h2 i hi).2.2.2.1⟩) g1) g2
  | none =>
    have hl0 : l2 = [] := by
      by_cases e : 0 < l2.length
      · cases h1 e
      · exact List.length_eq_zero_iff.1 (by omega)
    subst hl0
    obtain rfl := hnil rfl
    have h1 := h v w (by rw [List.append_nil]; exact hown) ⟨rfl, rfl, rfl, Nat.le_refl _, fun _ _ _ => rfl⟩
    refine wpList_plain hgd fun K hK => ?_
    have hr : (Builtin.append_ #[22, 22] o.type #[v, .slice none 0 0]).run Tryz.prog w = .ok v w := by
      rcases hw1.2 with ⟨rfl, _⟩ | ⟨g, cap, cur, rfl, _, _, hle, _⟩
      · exact run_append_none w 22 _ 24 i Tryz.underlying22 hi none 0 0 (Nat.le_refl _)
      · exact run_append_none w 22 _ 24 i Tryz.underlying22 hi (some ⟨g, 0, none⟩) _ cap hle
    unfold Oper.wp execOp
    simp only [ho, resolve, invoke, builtin, Sem.run_bind, Sem.run_pure, Result.andThen_ok, List.map_toArray, List.map_cons, List.map_nil, hs, hx, List.length_nil, hr]
    exact hK _ _ h1

set_option maxHeartbeats 1000000 in
theorem grow90 (n : Nat) (w : World) (h0 : 0 < n) (hn : n ≤ 4000) :
    Calls Tryz.prog 90 #[.slice none 0 0, .int .i64 n] w fun e w' => ∃ v, e = .returned v ∧ w'.ownsRow w.heap.size 24 3 v 0 [] ∧ Below w.heap.size w w' := by
  obtain ⟨i0, hi, hz0, hz1, hz2⟩ := info_parts Tryz.info24
  have hr := fun ty => Go.Lib.run_append_nil_zeros (P := Tryz.prog) w 22 3 ty 24 i0 _ .i64 .i64 Tryz.underlying22 Tryz.underlying3 hi hz0 n h0 (by omega) (by omega) (by rw [hz2]; omega)
  have HR := hid hr
  obtain ⟨g, hg⟩ : ∃ g, g = grownCap w n 0 24 := ⟨_, rfl⟩
  have hg1 : n ≤ g := by rw [hg]; exact grownCap_ge _ _ _ _
  have hg2 : g ≤ maxLen := by rw [hg]; exact grownCap_le_maxLen _ _ _ _ (by unfold maxLen; omega)
  rw [← hg] at HR
  have hcs : (Value.agg #[.int .i64 0, .int .i64 0, .slice none 0 0]).cells.size = 3 := rfl
  have HO : Hid ((w.drew.alloc (.cells (Builtin.zeroCells (Value.agg #[.int .i64 0, .int .i64 0, .slice none 0 0]).cells n ++ Builtin.zeroCells (Value.agg #[.int .i64 0, .int .i64 0, .slice none 0 0]).cells (g - n)) 24)).ownsRow w.heap.size 24 3 (.slice (some ⟨w.heap.size, 0, none⟩) 0 g) 0 []) :=
    World.ownsRow_made w.drew _ g (Nat.le_refl _) hg2 (by simp [Builtin.zeroCells, Value.cells]; omega)
  have HB : Hid (Below w.heap.size w (w.drew.alloc (.cells (Builtin.zeroCells (Value.agg #[.int .i64 0, .int .i64 0, .slice none 0 0]).cells n ++ Builtin.zeroCells (Value.agg #[.int .i64 0, .int .i64 0, .slice none 0 0]).cells (g - n)) 24))) := hid ((below_drewN (Below.refl _ w) 1).alloc (Nat.le_refl _) _)
  clear hi hz0 hz1 hz2 hr hg hg2
  go_enter Tryz.func90, Tryz.ntmps90
  go_wp2_with (at_builtin; refine Go.Lib.wpList_append_run _ rfl _ _ _ _ rfl _ _ rfl rfl _ _ (HR.out _) ?_)
  go_ret
  exact ⟨_, rfl, HO.out, HB.out⟩

set_option maxHeartbeats 1000000 in
theorem grow90_none (w : World) : Calls Tryz.prog 90 #[.slice none 0 0, .int .i64 0] w fun e w' => e = .returned (.slice none 0 0) ∧ w' = w := by
  go_enter Tryz.func90, Tryz.ntmps90
  go_wp2
  go_ret
  exact ⟨rfl, rfl⟩
end Go.Proofs.YtmdpbaobihdgkaaGreatDoor

namespace Go.Proofs.YtmdpbaobihdgkaaGreatDoor
open Go.RowKit

def lenK (s m : Nat) : Nat → Nat
  | 0 => 0
  | 1 => s
  | _ => s + m
def lstK (l1 l2 : List Fml) : Nat → List Fml
  | 0 => []
  | 1 => l1
  | _ => l1 ++ l2

theorem grow90_any (n : Nat) (w : World) (hn : n ≤ 4000) :
    Calls Tryz.prog 90 #[.slice none 0 0, .int .i64 n] w fun e w' => ∃ sa sc, e = .returned (.slice sa 0 sc) ∧ w'.ownsRow w.heap.size 24 3 (.slice sa 0 sc) 0 [] ∧ Below w.heap.size w w' := by
  by_cases h0 : 0 < n
  · refine (grow90 n w h0 hn).mono ?_
    rintro e w' ⟨v, rfl, h1, h2⟩
    rcases h1.2 with ⟨rfl, _⟩ | ⟨g, cap, cur, rfl, q⟩
    · exact ⟨_, _, rfl, h1, h2⟩
    · exact ⟨_, _, rfl, h1, h2⟩
  · obtain rfl : n = 0 := by omega
    refine (grow90_none w).mono ?_
    rintro e w' ⟨rfl, rfl⟩
    exact ⟨_, _, rfl, ⟨by simp, Or.inl ⟨rfl, rfl⟩⟩, Below.refl _ _⟩

theorem grown_belowE {w0 w0' w w1 : World} {n : Nat} {r : Nat → Fml} {v : Value} (hb : Below w0.heap.size w0 w) (ho : El w0' w w0.heap.size n r v) (hg : w.grownBy w1 v.ownBlock) : Below w0.heap.size w0 w1 :=
  hb.grown hg hb.size (fun k hk => (ho.own k hk).1)

set_option maxHeartbeats 2000000 in
theorem concat49 {w0 w : World} {gb : Nat} {sa : Option Addr} {sc : Nat} {la : Option Addr} {lc : Nat} {l1 l2 : List Fml} (h0 : w.cell? ⟨gb, 0, none⟩ = some (.slice sa l1.length sc)) (h1 : w.cell? ⟨gb, 1, none⟩ = some (.slice la l2.length lc))
    (hS : Ro w0 w sa l1) (hL : Ro w0 w la l2) (hsn : sa = none → sc = 0) (hln : la = none → lc = 0) (hn : l1.length + l2.length ≤ 1000) :
    Calls Tryz.prog 49 #[.slice (some ⟨gb, 0, none⟩) 2 2] w fun e w' => ∃ a c, e = .returned (.slice a (l1 ++ l2).length c) ∧ Hid (El w0 w' w.heap.size (l1 ++ l2).length (lf (l1 ++ l2)) (.slice a (l1 ++ l2).length c) ∧ Below w.heap.size w w') := by
  obtain ⟨i0, hi, hz0, hz1, hz2⟩ := info_parts Tryz.info24
  have HI : Hid (Tryz.prog.info? 24 = some i0 ∧ i0.zero = some (.agg #[.int .i64 0, .int .i64 0, .slice none 0 0]) ∧ i0.size = 3 ∧ i0.bytes = 40) := ⟨hi, hz0, hz1, hz2⟩
  have HS : Hid (Ro w0 w sa l1 ∧ (sa = none → sc = 0)) := ⟨hS, hsn⟩
  have HL : Hid (Ro w0 w la l2 ∧ (la = none → lc = 0)) := ⟨hL, hln⟩
  obtain ⟨s, hs⟩ : ∃ s, s = l1.length := ⟨_, rfl⟩
  obtain ⟨m, hm⟩ : ∃ m, m = l2.length := ⟨_, rfl⟩
  have C := hid (grow90_any (s + m) w (by omega))
  have e2 : ((s + m : Nat) : Int) = (s : Int) + m := by omega
  rw [← hs] at h0
  rw [← hm] at h1
  have hn' : s + m ≤ 1000 := by omega
  have H0 := hid h0
  have H1 := hid h1
  have HSM := hid (And.intro hs hm)
  rw [e2] at C
  clear hi hz0 hz1 hz2 hS hL hsn hln e2 h0 h1 hs hm hn
  go_enter Tryz.func49, Tryz.ntmps49
  go_wp2
  go_loop [11, 3] (fun i z => ∃ k : Nat, k ≤ 2 ∧ i = .int .i64 k ∧ z = .int .i64 (lenK s m k)) (fun i _ => 2 - (intOf i).toNat)
  case atStart => exact ⟨0, by omega, rfl, rfl⟩
  case round =>
    obtain ⟨k, hk, rfl, rfl⟩ := hrel
    have hk3 : k = 0 ∨ k = 1 ∨ k = 2 := by omega
    rcases hk3 with rfl | rfl | rfl
    · have h0 := H0.out
      have e1 : (lenK s m 0 : Int) = 0 := rfl
      rw [e1]
      go_wp2
      go_round
      case rel => exact ⟨1, by omega, by go_num, by simp [lenK]⟩
      case measure => simp [intOf]
    · have h1 := H1.out
      have e1 : (lenK s m 1 : Int) = s := rfl
      rw [e1]
      go_wp2
      go_round
      case rel => exact ⟨2, by omega, by go_num, by simp [lenK]⟩
      case measure => simp [intOf]
    · have e1 : (lenK s m 2 : Int) = (s : Int) + m := by simp [lenK]
      rw [e1]
      go_wp2_with fail
      refine C.out.mono ?_
      rintro e w1 ⟨xa, xc, rfl, hv, hb⟩
      have HV : Hid (El w0 w1 w.heap.size (lstK l1 l2 0).length (lf (lstK l1 l2 0)) (.slice xa 0 xc) ∧ Below w.heap.size w w1) := ⟨⟨fun _ => none, fun _ => 0, by simpa [lstK, kvs] using hv, fun i hi => absurd hi (by simp [lstK])⟩, hb⟩
      clear C hv hb hk
      go_wp2
      go_loopw [27, 6] (fun i v wr => ∃ k : Nat, k ≤ 2 ∧ i = .int .i64 k ∧ Hid (El w0 wr w.heap.size (lstK l1 l2 k).length (lf (lstK l1 l2 k)) v ∧ Below w.heap.size w wr)) (fun i _ _ => 2 - (intOf i).toNat)
      case atStart => exact ⟨0, by omega, rfl, HV⟩
      case round =>
        obtain ⟨k, hk, rfl, HK⟩ := hrel
        have hk3 : k = 0 ∨ k = 1 ∨ k = 2 := by omega
        rcases hk3 with rfl | rfl | rfl
        · have f0 := below_cell HK.out.2 (Nat.le_refl _) H0.out
          go_wp2_with (at_builtin; refine wpList_append_listF (w0 := w0) _ rfl _ _ rfl w.heap.size i0 HI.out.1 HI.out.2.1 HI.out.2.2.1 HI.out.2.2.2 _ (lstK l1 l2 0) l1 rfl HK.out.1 sa sc (by rw [← HSM.out.1]; rfl) (HS.out.1.below HK.out.2) HS.out.2 (by have := HSM.out; simp only [lstK, List.length_nil]; omega) HK.out.2.size ?_; intro v' w2 hown hgrow; have HX := hid (And.intro hown (grown_belowE HK.out.2 HK.out.1 hgrow)); clear hown hgrow)
          go_roundw
          case rel => exact ⟨1, by omega, by go_num, hid ⟨by have := HX.out.1; simp only [lstK, List.nil_append] at this ⊢; exact this, HX.out.2⟩⟩
          case measure => simp [intOf]
        · have f0 := below_cell HK.out.2 (Nat.le_refl _) H1.out
          go_wp2_with (at_builtin; refine wpList_append_listF (w0 := w0) _ rfl _ _ rfl w.heap.size i0 HI.out.1 HI.out.2.1 HI.out.2.2.1 HI.out.2.2.2 _ (lstK l1 l2 1) l2 rfl HK.out.1 la lc (by rw [← HSM.out.2]; rfl) (HL.out.1.below HK.out.2) HL.out.2 (by have := HSM.out; simp only [lstK]; omega) HK.out.2.size ?_; intro v' w2 hown hgrow; have HX := hid (And.intro hown (grown_belowE HK.out.2 HK.out.1 hgrow)); clear hown hgrow)
          go_roundw
          case rel => exact ⟨2, by omega, by go_num, hid ⟨by have := HX.out.1; simp only [lstK] at this ⊢; exact this, HX.out.2⟩⟩
          case measure => simp [intOf]
        · obtain ⟨ya, yc, hy⟩ := HK.out.1.is
          subst hy
          go_wp2
          go_ret
          exact ⟨ya, yc, rfl, HK⟩
end Go.Proofs.YtmdpbaobihdgkaaGreatDoor
