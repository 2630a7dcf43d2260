/- Lists of letters: append, Grow, Concat, Clone. -/
import Derived.Laws.AppendOwnNone
import Derived.Lib.AppendZeros
import Derived.Test.YtmdpbaobihdgkaaGreatDoorRwsJ
namespace Go.Proofs.YtmdpbaobihdgkaaGreatDoor
open Go.RowKit

theorem Tryz.info48 : (Tryz.prog.info? 48).map (fun i => (i.zero, i.size, i.bytes)) = some (some (.int .u64 0), 1, 8) := by kernel_rfl

theorem info_partsU {P : Program} {e : TypeId} {z : Option Value} {s b : Nat} (h : (P.info? e).map (fun i => (i.zero, i.size, i.bytes)) = some (z, s, b)) : ∃ i, P.info? e = some i ∧ i.zero = z ∧ i.size = s ∧ i.bytes = b := by
  obtain ⟨i, hi, he⟩ := Option.map_eq_some_iff.1 h
  simp only [Prod.mk.injEq] at he
  exact ⟨i, hi, he⟩

/-- The letters as cells. -/
def valsU (l : List Int) : List Value := l.map (Value.int .u64)
/-- n letters as a list. -/
def lstU (n : Nat) (Z : Nat → Int) : List Int := (List.range n).map Z
theorem lstU_len (n : Nat) (Z : Nat → Int) : (lstU n Z).length = n := by simp [lstU]
theorem valsU_len (l : List Int) : (valsU l).length = l.length := by simp [valsU]
theorem lstU_at (n : Nat) (Z : Nat → Int) (i : Nat) (h : i < n) : (lstU n Z)[i]? = some (Z i) := by simp [lstU, h]
theorem valsU_one (l : List Int) : ∀ u ∈ valsU l, u.oneCell' = true := by
  intro u hu
  obtain ⟨x, _, rfl⟩ := List.mem_map.1 hu
  rfl

theorem addr_noneU (b o k : Nat) : (⟨b, o, none⟩ : Addr).add k = ⟨b, o + k, none⟩ := by
  unfold Addr.add
  split <;> simp_all

theorem news_of_rowU {w : World} {x : Addr} {n : Nat} {Z : Nat → Int} (h : RowU w (some x) n Z) : ∀ j u, (valsU (lstU n Z))[j]? = some u → w.cell? (x.add j) = some u := by
  intro j u hu
  obtain ⟨b, o, ha, hc⟩ := h
  have hj : j < n := by
    have := (List.getElem?_eq_some_iff.1 hu).1
    rwa [valsU_len, lstU_len] at this
  have hx := ha (by omega)
  simp only [Option.some.injEq] at hx
  subst hx
  have e : (valsU (lstU n Z))[j]? = some (.int .u64 (Z j)) := by simp [valsU, lstU, hj]
  rw [e] at hu
  cases hu
  rw [addr_noneU]
  exact hc j hj

/-- What is the call's own is a row. -/
theorem rowU_of_owns {w : World} {base n : Nat} {v : Value} {l : List Int} (h : w.ownsRow base 48 1 v n (valsU l)) : l.length = n ∧ ∃ a c, v = .slice a n c ∧ (a = none → n = 0 ∧ c = 0) ∧ (∀ b, a = some b → base ≤ b.block) ∧ n ≤ c ∧ ∀ Z : Nat → Int, (∀ i, i < n → l[i]? = some (Z i)) → RowU w a n Z := by
  have hl : l.length = n := by have := h.1; rw [valsU_len] at this; omega
  refine ⟨hl, ?_⟩
  rcases h.2 with ⟨rfl, h0⟩ | ⟨g, cap, cur, rfl, hg, _, hcap, _⟩
  · subst h0
    exact ⟨none, 0, rfl, fun _ => ⟨rfl, rfl⟩, fun b hb => (by cases hb), Nat.le_refl _, fun Z _ => ⟨0, 0, fun hh => by omega, fun i hi => by omega⟩⟩
  · refine ⟨some ⟨g, 0, none⟩, cap, rfl, fun hh => (by cases hh), fun b hb => (by cases hb; exact hg), hcap, fun Z hZ => ⟨g, 0, fun _ => rfl, fun i hi => ?_⟩⟩
    have := h.cells (g := g) rfl i (.int .u64 (Z i)) (by rw [valsU, List.getElem?_map, hZ i hi]; rfl)
    rwa [addr_noneU] at this

theorem run_append_none {P : Program} (w : World) (t ty e : TypeId) (i : TypeInfo) (ht : P.underlying t = some (.slice e)) (hi : P.info? e = some i) (a : Option Addr) (n cap : Nat) (h : n ≤ cap) :
    (Builtin.append_ #[t, t] ty #[.slice a n cap, .slice none 0 0]).run P w = .ok (.slice a n cap) w := by
  cases a with
  | none => simp [Builtin.append_, run_underlying ht, sizeOf, typeInfo, hi, Builtin.lenOf, Builtin.firstCells, h]
  | some x => simp [Builtin.append_, run_underlying ht, sizeOf, typeInfo, hi, Builtin.lenOf, Builtin.firstCells, h, storeCells]

/-- 'append(v, s...)' of letters, s a slice of whatever memory, nil too. -/
theorem wpList_append_listU {P : Program} (w : World) {ops : Array Oper} {rest : List Oper} {o : Oper} {a : Act} {Q : Exit → Act → World → Prop} (hgd : o.guard = none) (s x : Operand) (t : TypeId)
    (ho : o.op = .call { callee := .builtin .append, args := #[s, x], argTypes := #[t, t] })
    (base : Nat) (i : TypeInfo) (ht : P.underlying t = some (.slice 48)) (hi : P.info? 48 = some i) (hz : i.zero = some (.int .u64 0)) (hsize : i.size = 1) (hby : i.bytes = 8)
    (v : Value) (n : Nat) (xs : List Int) (hs : a.eval s = v) (hown : w.ownsRow base 48 1 v n (valsU xs))
    (b : Option Addr) (m d : Nat) (Y : Nat → Int) (hx : a.eval x = .slice b m d) (hrow : RowU w b m Y) (hnil : b = none → m = 0 ∧ d = 0) (hsum : n + m ≤ 4194304) (hbase : base ≤ w.heap.size)
    (h : ∀ v' w', w'.ownsRow base 48 1 v' (n + m) (valsU (xs ++ lstU m Y)) → w.grownBy w' v.ownBlock → wpList P ops Q rest (a.put o.dst v') w') :
    wpList P ops Q (o :: rest) a w := by
  cases b with
  | some ad =>
    refine wpList_append_own w hgd s x t ho base 48 i (.int .u64 0) 1 8 ht hi hz hsize hby rfl (by decide) v n (valsU xs) hs hown ad m d (valsU (lstU m Y)) hx (by rw [valsU_len, lstU_len, Nat.mul_one]) (news_of_rowU hrow) (valsU_one _) (by unfold maxLen; omega) (by omega) hbase ?_
    intro v' w' h1 h2 _
    refine h v' w' ?_ h2
    have : valsU (xs ++ lstU m Y) = valsU xs ++ valsU (lstU m Y) := by simp [valsU]
    rw [this]
    exact h1
  | none =>
    obtain ⟨rfl, rfl⟩ := hnil rfl
    have h1 := h v w (by simpa [lstU] using hown) ⟨rfl, rfl, rfl, Nat.le_refl _, fun _ _ _ => rfl⟩
    refine wpList_plain hgd fun K hK => ?_
    have hr : (Builtin.append_ #[t, t] o.type #[v, .slice none 0 0]).run P w = .ok v w := by
      rcases hown.2 with ⟨rfl, rfl⟩ | ⟨g, cap, cur, rfl, _, _, hle, _⟩
      · exact run_append_none w t _ 48 i ht hi none 0 0 (Nat.le_refl _)
      · exact run_append_none w t _ 48 i ht hi (some ⟨g, 0, none⟩) n cap hle
    unfold Oper.wp execOp
    simp only [ho, resolve, invoke, builtin, Sem.run_bind, Sem.run_pure, Result.andThen_ok, List.map_toArray, List.map_cons, List.map_nil, hs, hx, hr]
    exact hK _ _ h1

set_option maxHeartbeats 400000 in
theorem grow_any (n : Nat) (w : World) (h0 : 0 < n) (hn : n ≤ 1000) :
    Calls Tryz.prog 93 #[.slice none 0 0, .int .i64 n] w fun e w' => ∃ v, e = .returned v ∧ w'.ownsRow w.heap.size 48 1 v 0 (valsU []) ∧ Below w.heap.size w w' := by
  obtain ⟨i0, hi, hz0, hz1, hz2⟩ := info_partsU Tryz.info48
  have hr := fun ty => Go.Lib.run_append_nil_zeros (P := Tryz.prog) w 25 3 ty 48 i0 (.int .u64 0) .i64 .i64 Tryz.underlying25 Tryz.underlying3 hi hz0 n h0 (by omega) (by omega) (by rw [hz2]; omega)
  have HR := hid hr
  obtain ⟨g, hg⟩ : ∃ g, g = grownCap w n 0 48 := ⟨_, rfl⟩
  have hg1 : n ≤ g := by rw [hg]; exact grownCap_ge _ _ _ _
  have hg2 : g ≤ maxLen := by rw [hg]; exact grownCap_le_maxLen _ _ _ _ (by unfold maxLen; omega)
  rw [← hg] at HR
  have HO : Hid ((w.drew.alloc (.cells (Builtin.zeroCells (Value.int .u64 0).cells n ++ Builtin.zeroCells (Value.int .u64 0).cells (g - n)) 48)).ownsRow w.heap.size 48 1 (.slice (some ⟨w.heap.size, 0, none⟩) 0 g) 0 (valsU [])) :=
    World.ownsRow_made w.drew _ g (Nat.le_refl _) hg2 (by simp [Builtin.zeroCells, Value.cells]; omega)
  have HB : Hid (Below w.heap.size w (w.drew.alloc (.cells (Builtin.zeroCells (Value.int .u64 0).cells n ++ Builtin.zeroCells (Value.int .u64 0).cells (g - n)) 48))) := hid ((below_drewN (Below.refl _ w) 1).alloc (Nat.le_refl _) _)
  clear hi hz0 hz1 hz2 hr hg hg2
  go_enter Tryz.func93, Tryz.ntmps93
  go_wp2_with (at_builtin; refine Go.Lib.wpList_append_run _ rfl _ _ _ _ rfl _ _ rfl rfl _ _ (HR.out _) ?_)
  go_ret
  exact ⟨_, rfl, HO.out, HB.out⟩

/-- One list behind the other. -/
def cat (s : Nat) (S L : Nat → Int) (i : Nat) : Int := if i < s then S i else L (i - s)

theorem cat_at (s m : Nat) (S L : Nat → Int) (i : Nat) (h : i < s + m) : (lstU s S ++ lstU m L)[i]? = some (cat s S L i) := by
  unfold cat
  by_cases e : i < s
  · rw [if_pos e, List.getElem?_append_left (by rw [lstU_len]; exact e), lstU_at _ _ _ e]
  · rw [if_neg e, List.getElem?_append_right (by rw [lstU_len]; omega), lstU_len, lstU_at _ _ _ (by omega)]

theorem cat_ltr {s m : Nat} {S L : Nat → Int} {i : Nat} (h : i < s + m) : cat s S L i = ltr s m S L i := by
  unfold cat ltr
  by_cases e : i < s
  · rw [if_pos e, if_pos e]
  · rw [if_neg e, if_neg e, Nat.mod_eq_of_lt (by omega)]

/-- How long it is behind k of two lists; what it holds then. -/
def catN (s m : Nat) : Nat → Nat
  | 0 => 0
  | 1 => s
  | _ => s + m
def catL (s m : Nat) (S L : Nat → Int) : Nat → List Int
  | 0 => []
  | 1 => lstU s S
  | _ => lstU s S ++ lstU m L

/-- A new list of letters. -/
def NewU (w0 : World) (n : Nat) (Z : Nat → Int) (e : Ending) (w : World) : Prop :=
  ∃ a c, e = .returned (.slice a n c) ∧ (a = none → n = 0 ∧ c = 0) ∧ (∀ b, a = some b → w0.heap.size ≤ b.block) ∧ n ≤ c ∧ RowU w a n Z ∧ Below w0.heap.size w0 w

theorem grown_below {w0 w w1 : World} {v : Value} {n : Nat} {l : List Value} {e : TypeId} (hb : Below w0.heap.size w0 w) (ho : w.ownsRow w0.heap.size e 1 v n l) (hg : w.grownBy w1 v.ownBlock) : Below w0.heap.size w0 w1 :=
  hb.grown hg hb.size (fun k hk => (ho.lt k hk).1)

theorem newU_of {w0 w : World} {n : Nat} {Z : Nat → Int} {v : Value} {l : List Int} (h : w.ownsRow w0.heap.size 48 1 v n (valsU l)) (hl : ∀ i, i < n → l[i]? = some (Z i)) (hb : Below w0.heap.size w0 w) : NewU w0 n Z (.returned v) w := by
  obtain ⟨_, a, c, rfl, h1, h2, h3, h4⟩ := rowU_of_owns h
  exact ⟨a, c, rfl, h1, h2, h3, h4 Z hl, hb⟩

set_option maxHeartbeats 2000000 in
theorem concat_any {w : World} {gb : Nat} {sa : Option Addr} {s sc : Nat} {la : Option Addr} {m lc : Nat} {S L : Nat → Int} (h0 : w.cell? ⟨gb, 0, none⟩ = some (.slice sa s sc)) (h1 : w.cell? ⟨gb, 1, none⟩ = some (.slice la m lc))
    (hS : RowU w sa s S) (hL : RowU w la m L) (hsn : sa = none → s = 0 ∧ sc = 0) (hln : la = none → m = 0 ∧ lc = 0) (hn : s + m ≤ 60) (hp : 0 < s + m) :
    Calls Tryz.prog 62 #[.slice (some ⟨gb, 0, none⟩) 2 2] w fun e w' => NewU w (s + m) (cat s S L) e w' := by
  obtain ⟨i0, hi, hz0, hz1, hz2⟩ := info_partsU Tryz.info48
  have HI : Hid (Tryz.prog.info? 48 = some i0 ∧ i0.zero = some (.int .u64 0) ∧ i0.size = 1 ∧ i0.bytes = 8) := ⟨hi, hz0, hz1, hz2⟩
  have HS : Hid (RowU w sa s S ∧ (sa = none → s = 0 ∧ sc = 0)) := ⟨hS, hsn⟩
  have HL : Hid (RowU w la m L ∧ (la = none → m = 0 ∧ lc = 0)) := ⟨hL, hln⟩
  have C := hid (grow_any (s + m) w hp (by omega))
  have e2 : ((s + m : Nat) : Int) = (s : Int) + m := by omega
  have H0 := hid h0
  have H1 := hid h1
  rw [e2] at C
  clear hi hz0 hz1 hz2 hS hL hsn hln e2 h0 h1
  go_enter Tryz.func62, Tryz.ntmps62
  go_wp2
  go_loop [11, 3] (fun i z => ∃ k : Nat, k ≤ 2 ∧ i = .int .i64 k ∧ z = .int .i64 (catN s m k)) (fun i _ => 2 - (intOf i).toNat)
  case atStart => exact ⟨0, by omega, rfl, rfl⟩
  case round =>
    obtain ⟨k, hk, rfl, rfl⟩ := hrel
    have hk3 : k = 0 ∨ k = 1 ∨ k = 2 := by omega
    rcases hk3 with rfl | rfl | rfl
    · have h0 := H0.out
      have e1 : (catN s m 0 : Int) = 0 := rfl
      rw [e1]
      go_wp2
      go_round
      case rel => exact ⟨1, by omega, by go_num, by simp [catN]⟩
      case measure => simp [intOf]
    · have h1 := H1.out
      have e1 : (catN s m 1 : Int) = s := rfl
      rw [e1]
      go_wp2
      go_round
      case rel => exact ⟨2, by omega, by go_num, by simp [catN]⟩
      case measure => simp [intOf]
    · have e1 : (catN s m 2 : Int) = (s : Int) + m := by simp [catN]
      rw [e1]
      go_wp2_with fail
      refine C.out.mono ?_
      rintro e w1 ⟨v, rfl, hv, hb⟩
      have HV : Hid (w1.ownsRow w.heap.size 48 1 v (catN s m 0) (valsU (catL s m S L 0)) ∧ Below w.heap.size w w1) := ⟨hv, hb⟩
      clear C hv hb hk
      go_wp2
      go_loopw [27, 6] (fun i v wr => ∃ k : Nat, k ≤ 2 ∧ i = .int .i64 k ∧ Hid (wr.ownsRow w.heap.size 48 1 v (catN s m k) (valsU (catL s m S L k)) ∧ Below w.heap.size w wr)) (fun i _ _ => 2 - (intOf i).toNat)
      case atStart => exact ⟨0, by omega, rfl, HV⟩
      case round =>
        obtain ⟨k, hk, rfl, HK⟩ := hrel
        have hk3 : k = 0 ∨ k = 1 ∨ k = 2 := by omega
        rcases hk3 with rfl | rfl | rfl
        · have f0 := below_cell HK.out.2 (Nat.le_refl _) H0.out
          go_wp2_with (at_builtin; refine wpList_append_listU _ rfl _ _ 25 rfl w.heap.size i0 Tryz.underlying25 HI.out.1 HI.out.2.1 HI.out.2.2.1 HI.out.2.2.2 _ _ _ rfl HK.out.1 sa s sc S rfl (HS.out.1.below HK.out.2) HS.out.2 (by simp only [catN]; omega) HK.out.2.size ?_; intro v' w2 hown hgrow; have HX := hid (And.intro hown (grown_below HK.out.2 HK.out.1 hgrow)); clear hown hgrow)
          go_roundw
          case rel => exact ⟨1, by omega, by go_num, hid ⟨by have := HX.out.1; simp only [catN, catL, List.nil_append, Nat.zero_add] at this ⊢; exact this, HX.out.2⟩⟩
          case measure => simp [intOf]
        · have f0 := below_cell HK.out.2 (Nat.le_refl _) H1.out
          go_wp2_with (at_builtin; refine wpList_append_listU _ rfl _ _ 25 rfl w.heap.size i0 Tryz.underlying25 HI.out.1 HI.out.2.1 HI.out.2.2.1 HI.out.2.2.2 _ _ _ rfl HK.out.1 la m lc L rfl (HL.out.1.below HK.out.2) HL.out.2 (by simp only [catN]; omega) HK.out.2.size ?_; intro v' w2 hown hgrow; have HX := hid (And.intro hown (grown_below HK.out.2 HK.out.1 hgrow)); clear hown hgrow)
          go_roundw
          case rel => exact ⟨2, by omega, by go_num, hid ⟨by have := HX.out.1; simp only [catN, catL] at this ⊢; exact this, HX.out.2⟩⟩
          case measure => simp [intOf]
        · go_wp2
          go_ret
          exact newU_of HK.out.1 (fun i hi => cat_at s m S L i hi) HK.out.2

end Go.Proofs.YtmdpbaobihdgkaaGreatDoor
