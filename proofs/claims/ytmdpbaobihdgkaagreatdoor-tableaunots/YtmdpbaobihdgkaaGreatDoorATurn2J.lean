/-   -/
import Derived.Test.YtmdpbaobihdgkaaGreatDoorTepJ
import Derived.Laws.Bits64b
import Derived.Lib.TrailingZeros
/- Small functions, by their contracts. -/
/- Sets of states as 32 words: add, remove, has; the least bit of a word; what two sets have in common. -/
namespace Go.Proofs.YtmdpbaobihdgkaaGreatDoor
open Go.RowKit
set_option maxHeartbeats 400000 in
theorem endsWith_any (a : Option Addr) (n c : Nat) (Z : Nat → Int) (x : Int) (w : World) (hn : n ≤ 140737488355328) (h : Row w a n Z) :
  Calls Tryz.prog 69 #[.slice a n c, .int .i64 x] w fun e w' => e = .returned (.bool (decide (0 < n ∧ Z (n - 1) = x))) ∧ w' = w := by
 obtain ⟨b, o, ha, hc⟩ := h
 by_cases h0 : 0 < n
 ·obtain rfl := ha h0
  have hcl := hc (n - 1) (by omega)
  have hz : (0 : Int) < n := by omega
  obtain ⟨k, rfl⟩ : ∃ k, n = k + 1 := ⟨n - 1, by omega⟩
  simp only [Nat.add_sub_cancel] at hcl ⊢
  clear hc ha
  go_enter Tryz.func69, Tryz.ntmps69
  go_wp2
  go_ret
  refine ⟨ret_bool ?_, rfl⟩
  rw [Bool.eq_iff_iff]; simp
 ·have hz : ¬ (0 : Int) < n := by omega
  obtain rfl : n = 0 := by omega
  go_enter Tryz.func69, Tryz.ntmps69
  go_wp2
  go_ret
  exact ⟨ret_bool (by simp), rfl⟩
set_option maxHeartbeats 1000000 in
theorem turn_ok (ga : Option Addr) (G gc : Nat) (L : Nat → Nat) (Z : Nat → Nat → Int) (w : World) (hL : ∀ r, r < G → L r ≤ 140737488355328) (h : Gr w ga G L Z) (h0 : errG G L Z = 0) :
  Calls Tryz.prog 24 #[.slice ga G gc] w fun e w' => e = .returned (.tuple #[.slice (some ⟨w.heap.size, 0, none⟩) G G, .int .i64 0]) ∧ ∃ V, Fam w w' G (tl L Z G) V := by
 have C : Hid (Calls Tryz.prog 68 #[.slice ga G gc] w fun e w' => e = .returned (.int .i64 0) ∧ w' = w) := check_ok ga G gc L Z w hL h h0
 obtain ⟨hG, hall⟩ := errG_zero h0
 have HA : Hid (∀ r, r < G → ∀ i, i < L r → 0 ≤ Z r i ∧ Z r i < G) := hall
 have HL : Hid (∀ r, r < G → L r ≤ 140737488355328) := hL
 obtain ⟨b, o, ha, hc⟩ := h
 have HC : Hid (∀ r, r < G → ∃ a c, w.cell? ⟨b, o + r, none⟩ = some (.slice a (L r) c) ∧ Row w a (L r) (Z r)) := hc
 clear hc hL hall h0
 have hmk := run_make_row' (P := Tryz.prog) 30 29 (.slice none 0 0) 24 Tryz.underlying30 Tryz.info29 rfl .i64 .i64 G (by omega) (by omega)
 obtain ⟨i0, hi, hz0, hz1, hz2⟩ := info_parts Tryz.info3
 have HI : Hid (Tryz.prog.info? 3 = some i0 ∧ i0.zero = some (.int .i64 0) ∧ i0.size = 1 ∧ i0.bytes = 8) := ⟨hi, hz0, hz1, hz2⟩
 clear hi hz0 hz1 hz2
 go_enter Tryz.func24, Tryz.ntmps24
 go_wp2_with fail
 refine C.out.mono ?_
 rintro e w' ⟨rfl, rfl⟩
 go_wp2
 clear hmk
 go_loopw [20] (fun i wr => ∃ r : Nat, r ≤ G ∧ i = .int .i64 r ∧ ∃ V, Fam w' wr G (tl L Z r) V) (fun i _ => G - (intOf i).toNat)
 case atStart => exact ⟨0, Nat.zero_le _, rfl, _, fam_start w' G _ (fun j _ => rfl)⟩
 case round =>
  obtain ⟨r, hr, rfl, V, hF⟩ := hrel
  by_cases hlt : r < G
  ·obtain rfl := ha (by omega)
   obtain ⟨a, c, hck0, hrow0⟩ := HC.out r hlt
   have hck : wr.cell? ⟨b, o + r, none⟩ = some (.slice a (L r) c) := by
    rw [hF.below.cell (p := ⟨b, o + r, none⟩) (World.block_lt_of_cell? _ _ hck0)]; exact hck0
   have HR : Hid (Row w' a (L r) (Z r)) := hrow0
   have HF : Hid (Fam w' wr G (tl L Z r) V) := hF
   have hLr := HL.out r hlt
   clear hrow0 hck0 hF ha
   go_wp2
   go_loopw [27] (fun i wi => ∃ k : Nat, k ≤ L r ∧ i = .int .i64 k ∧ ∃ V, Fam w' wi G (tli L Z r k) V) (fun i _ => L r - (intOf i).toNat)
   case atStart => exact ⟨0, Nat.zero_le _, rfl, V, HF.out.congr (fun j _ => (tli_zero L Z r j).symm)⟩
   case round =>
    obtain ⟨k, hk, rfl, V', hF⟩ := hrel
    by_cases hlk : k < L r
    ·obtain ⟨b', o', ha', hc'⟩ := HR.out
     obtain rfl := ha' (by omega)
     obtain ⟨t, ht⟩ : ∃ t : Nat, Z r k = t := ⟨(Z r k).toNat, by have := HA.out r hlt k hlk; omega⟩
     have htG : t < G := by have := HA.out r hlt k hlk; omega
     have htz : (t : Int) < G := by omega
     have hcell : wr.cell? ⟨b', o' + k, none⟩ = some (.int .i64 t) := by
      rw [hF.below.cell (p := ⟨b', o' + k, none⟩) (World.block_lt_of_cell? _ _ (hc' k hlk)), hc' k hlk, ht]
     have HT : Hid (Z r k = t) := ht
     clear hck ht hc' ha' HF
     obtain ⟨a2, c2, hv, hrow⟩ := owns_row (hF.own t htG)
     have hown := hF.own t htG
     have htop := hF.top.cell htG
     rw [hv] at hown htop
     have hlen := tli_le L Z r k t
     have CE := endsWith_any a2 (tli L Z r k t).length c2 _ (r : Int) wr (by omega) hrow
     rw [tli_last] at CE
     have HE : Hid (Calls Tryz.prog 69 #[.slice a2 (tli L Z r k t).length c2, .int .i64 r] wr fun e w' => e = .returned (.bool (has k (Z r) t)) ∧ w' = wr) := CE
     have HF : Hid (Fam w' wr G (tli L Z r k) V') := hF
     have HV : Hid (V' t = .slice a2 (tli L Z r k t).length c2) := hv
     have HO : Hid (wr.ownsRow (w'.heap.size + 1) 3 1 (.slice a2 (tli L Z r k t).length c2) (tli L Z r k t).length (vals (tli L Z r k t))) := hown
     have hsize := hF.size
     clear CE hrow hF hv hown
     generalize hn : (tli L Z r k t).length = n at *
     have HN : Hid ((tli L Z r k t).length = n) := hn
     clear hn
     cases hb : has k (Z r) t
     ·have HB : Hid (has k (Z r) t = false) := hb
      rw [hb] at HE
      clear hb
      go_wp2_with fail
      refine HE.out.mono ?_
      rintro e w1 ⟨rfl, rfl⟩
      go_wp2_with (at_builtin; refine wpList_append_own_at _ rfl _ _ 29 rfl (w'.heap.size + 1) 3 i0 (.int .i64 0) 1 8 Tryz.underlying29 HI.out.1 HI.out.2.1 HI.out.2.2.1 HI.out.2.2.2 rfl (by decide) _ _ _ rfl (HO.out.alloc _) ⟨w1.heap.size, 0, none⟩ 1 1 [.int .i64 r] rfl rfl (cell_one_new _ _ _) (ints_oneCell .i64 [(r : Int)]) (by unfold maxLen; omega) (by omega) (by simp; omega) ?_; intro v' w2 hown' hgrow hnil hloc; obtain ⟨⟨a3, c3, rfl⟩, g1, g2, G3⟩ := Fam.step' HF.out htG HN.out HV.out hown' hgrow hloc; clear hown' hgrow hnil hloc)
      go_roundw
      case rel => exact ⟨k + 1, by omega, by go_num, _, G3.out.congr (fun j _ => tli_new L Z r k t HT.out HB.out j)⟩
      case measure => simp [intOf]; omega
     ·have HB : Hid (has k (Z r) t = true) := hb
      rw [hb] at HE
      clear hb
      go_wp2_with fail
      refine HE.out.mono ?_
      rintro e w1 ⟨rfl, rfl⟩
      go_wp2
      go_roundw
      case rel => exact ⟨k + 1, by omega, by go_num, V', HF.out.congr (fun j _ => tli_hit L Z r k t HT.out HB.out j)⟩
      case measure => simp [intOf]; omega
    ·go_wp2
     obtain rfl : k = L r := by omega
     go_roundw
     case rel => exact ⟨r + 1, by omega, by go_num, V', hF.congr (fun j _ => tli_full L Z r j)⟩
     case measure => simp [intOf]; omega
  ·go_wp2
   obtain rfl : r = G := by omega
   go_ret2
   exact ⟨rfl, V, hF⟩
end Go.Proofs.YtmdpbaobihdgkaaGreatDoor
namespace Go.Proofs.YtmdpbaobihdgkaaGreatDoor
open Go.RowKit
def mem (x : Nat → Nat) (s : Nat) : Bool := (x (s / 64)).testBit (s % 64)
def upd (x : Nat → Nat) (i v : Nat) : Nat → Nat := fun j => if j = i then v else x j
def sadd (x : Nat → Nat) (s : Nat) : Nat → Nat := upd x (s / 64) (x (s / 64) ||| 2 ^ (s % 64))
def sdel (x : Nat → Nat) (s : Nat) : Nat → Nat := upd x (s / 64) (x (s / 64) &&& (18446744073709551616 - (2 ^ (s % 64) + 1)))
theorem div_mod_64 {s t : Nat} (h1 : t / 64 = s / 64) (h2 : t % 64 = s % 64) : t = s := by omega
theorem mem_add (x : Nat → Nat) (s t : Nat) : mem (sadd x s) t = (decide (t = s) || mem x t) := by
 unfold mem sadd upd
 by_cases h : t / 64 = s / 64
 ·rw [if_pos h, Nat.testBit_or, Nat.testBit_two_pow, h]
  by_cases h2 : t % 64 = s % 64
  ·have := div_mod_64 h h2
   subst this
   simp
  ·have h3 : ¬ t = s := fun e => h2 (by rw [e])
   have h4 : ¬ s % 64 = t % 64 := fun e => h2 e.symm
   simp [h3, h4]
 ·have h3 : ¬ t = s := fun e => h (by rw [e])
  rw [if_neg h]
  simp [h3]
theorem pow_lt_64 {k : Nat} (h : k < 64) : 2 ^ k < 18446744073709551616 := by
 have : 2 ^ k < 2 ^ 64 := Nat.pow_lt_pow_right (by decide) h
 exact this
theorem mem_del (x : Nat → Nat) (s t : Nat) : mem (sdel x s) t = (decide (t ≠ s) && mem x t) := by
 unfold mem sdel upd
 have hp : 2 ^ (s % 64) < 2 ^ 64 := Nat.pow_lt_pow_right (by decide) (Nat.mod_lt _ (by decide))
 by_cases h : t / 64 = s / 64
 ·rw [if_pos h, Nat.testBit_and, show (18446744073709551616 : Nat) = 2 ^ 64 from rfl, Nat.testBit_two_pow_sub_succ hp, Nat.testBit_two_pow, h]
  have h1 : t % 64 < 64 := Nat.mod_lt _ (by decide)
  by_cases h2 : t % 64 = s % 64
  ·have := div_mod_64 h h2
   subst this
   simp
  ·have h3 : ¬ t = s := fun e => h2 (by rw [e])
   have h4 : ¬ s % 64 = t % 64 := fun e => h2 e.symm
   simp [h3, h4, h1]
 ·have h3 : ¬ t = s := fun e => h (by rw [e])
  rw [if_neg h]
  simp [h3]
theorem bits_andNot_u64_nat (a b : Nat) (ha : a < 18446744073709551616) (hb : b < 18446744073709551616) :
  bits .andNot .u64 (a : Int) (b : Int) = ((a &&& (18446744073709551616 - (b + 1)) : Nat) : Int) := by
 have hx : a &&& (18446744073709551616 - (b + 1)) < 2 ^ 64 := Nat.and_lt_two_pow _ (by omega)
 have h1 : (BitVec.ofInt 64 (a : Int)).toNat = a := by
  rw [BitVec.ofInt_natCast, BitVec.toNat_ofNat]; exact Nat.mod_eq_of_lt (by omega)
 have h2 : (BitVec.ofInt 64 (b : Int)).toNat = b := by
  rw [BitVec.ofInt_natCast, BitVec.toNat_ofNat]; exact Nat.mod_eq_of_lt (by omega)
 show IntKind.u64.wrap ((BitVec.ofInt 64 (a : Int) &&& ~~~ BitVec.ofInt 64 (b : Int)).toNat : Int) = _
 rw [BitVec.toNat_and, BitVec.toNat_not, h1, h2, show 2 ^ 64 - 1 - b = 18446744073709551616 - (b + 1) by omega, IntKind.wrap_u64]
 omega
structure St (w : World) (b o : Nat) (x : Nat → Nat) : Prop where
 cell : ∀ i, i < 32 → w.cell? ⟨b, o + i, none⟩ = some (.int .u64 (x i))
 free : ∀ i, i < 32 → w.frozen? ⟨b, o + i, none⟩ = false
 small : ∀ i, i < 32 → x i < 18446744073709551616
theorem wrap_pow {k : Nat} (h : k < 64) : IntKind.u64.wrap (2 ^ k) = ((2 ^ k : Nat) : Int) := by
 have h1 := pow_lt_64 h
 have h2 : ((2 : Int) ^ k) = ((2 ^ k : Nat) : Int) := by simp
 rw [h2, IntKind.wrap_u64]
 generalize 2 ^ k = z at *
 omega
set_option maxHeartbeats 400000 in
theorem add_any (b o : Nat) (x : Nat → Nat) (s : Nat) (w : World) (hs : s < 2048) (h : St w b o x) :
  Calls Tryz.prog 70 #[.pointer (some ⟨b, o, none⟩), .int .i64 s] w fun e w' => (∃ v, e = .returned v) ∧ w' = (w.setCell ⟨b, o + s / 64, none⟩ (.int .u64 (sadd x s (s / 64) : Nat))).drew := by
 have h1 := h.cell (s / 64) (by omega)
 have h2 := h.free (s / 64) (by omega)
 have E : Hid (bits BinOp.or IntKind.u64 (x (s / 64) : Nat) (IntKind.u64.wrap (2 ^ (s % 64))) = (sadd x s (s / 64) : Nat)) := by
  have hk : s % 64 < 64 := Nat.mod_lt _ (by decide)
  rw [wrap_pow hk, bits_or_u64_nat _ _ (h.small _ (by omega)) (pow_lt_64 hk)]
  exact hid (by simp [sadd, upd])
 clear h
 go_enter Tryz.func70, Tryz.ntmps70
 go_wp2
 go_region
 rw [E.out]
 go_end0
 exact ⟨⟨_, rfl⟩, rfl⟩
set_option maxHeartbeats 400000 in
theorem del_any (b o : Nat) (x : Nat → Nat) (s : Nat) (w : World) (hs : s < 2048) (h : St w b o x) :
  Calls Tryz.prog 105 #[.pointer (some ⟨b, o, none⟩), .int .i64 s] w fun e w' => (∃ v, e = .returned v) ∧ w' = (w.setCell ⟨b, o + s / 64, none⟩ (.int .u64 (sdel x s (s / 64) : Nat))).drew := by
 have h1 := h.cell (s / 64) (by omega)
 have h2 := h.free (s / 64) (by omega)
 have E : Hid (bits BinOp.andNot IntKind.u64 (x (s / 64) : Nat) (IntKind.u64.wrap (2 ^ (s % 64))) = (sdel x s (s / 64) : Nat)) := by
  have hk : s % 64 < 64 := Nat.mod_lt _ (by decide)
  rw [wrap_pow hk, bits_andNot_u64_nat _ _ (h.small _ (by omega)) (pow_lt_64 hk)]
  exact hid (by simp [sdel, upd])
 clear h
 go_enter Tryz.func105, Tryz.ntmps105
 go_wp2
 go_region
 rw [E.out]
 go_end0
 exact ⟨⟨_, rfl⟩, rfl⟩
theorem has_any (b o : Nat) (x : Nat → Nat) (s : Nat) (w : World) (hs : s < 2048) (h : St w b o x) :
  Calls Tryz.prog 39 #[.pointer (some ⟨b, o, none⟩), .int .i64 s] w fun e w' => e = .returned (.bool (mem x s)) ∧ w' = w := by
 have h1 := h.cell (s / 64) (by omega)
 have h3 := h.small (s / 64) (by omega)
 go_enter Tryz.func39, Tryz.ntmps39
 go_wp2
 go_ret
 refine ⟨ret_bool ?_, rfl⟩
 have e1 : ((x (s / 64) : Nat) : Int) / 2 ^ (s % 64) = ((x (s / 64) / 2 ^ (s % 64) : Nat) : Int) := by simp
 have h4 : x (s / 64) / 2 ^ (s % 64) < 18446744073709551616 := Nat.lt_of_le_of_lt (Nat.div_le_self _ _) h3
 rw [e1, show (1 : Int) = ((1 : Nat) : Int) from rfl, bits_and_u64_nat _ _ h4 (by decide)]
 unfold mem
 rw [Bool.eq_iff_iff, Nat.testBit_eq_decide_div_mod_eq, Nat.and_one_is_mod]
 simp
 omega
structure Sm (w w' : World) : Prop where
 os : w'.os = w.os
 tape : w'.tape = w.tape
 output : w'.output = w.output
 heap : w'.heap = w.heap
theorem Sm.refl (w : World) : Sm w w := ⟨rfl, rfl, rfl, rfl⟩
theorem Sm.drew {u w : World} (h : Sm u w) : Sm u w.drew := ⟨h.os, h.tape, h.output, h.heap⟩
theorem Sm.below {u w : World} (h : Sm u w) (B : Nat) : Below B u w := ⟨h.os, h.tape, h.output, by rw [h.heap]; exact Nat.le_refl _, fun k _ => by rw [h.heap]⟩
theorem Sm.but {u w : World} (h : Sm u w) (b : Nat) : But b u w := ⟨h.os, h.tape, h.output, by rw [h.heap]; exact Nat.le_refl _, fun k _ _ => by rw [h.heap]⟩
theorem Sm.cell {u w : World} (h : Sm u w) (p : Addr) : w.cell? p = u.cell? p := World.cell?_of_block (w := u) (by rw [h.heap])
theorem Sm.frozen {u w : World} (h : Sm u w) (p : Addr) : w.frozen? p = u.frozen? p := by unfold World.frozen?; rw [h.heap]
theorem Sm.st {u w : World} (h : Sm u w) {b o : Nat} {x : Nat → Nat} (k : St u b o x) : St w b o x :=
 ⟨fun i hi => by rw [h.cell]; exact k.cell i hi, fun i hi => by rw [h.frozen]; exact k.free i hi, k.small⟩
def Tb (w : World) : Prop := ∀ j, j < 64 → w.cell? ⟨0, j, none⟩ = some (.int .u8 (Lib.deBruijn64tab.getD j 0))
theorem Sm.tb {u w : World} (h : Sm u w) (k : Tb u) : Tb w := fun j hj => by rw [h.cell]; exact k j hj
theorem tz64_key (x a : Nat) (hx : x < 18446744073709551616) (hx0 : x ≠ 0) (hlow : x &&& (18446744073709551616 - x) = a) :
  IntKind.u64.wrap (bits BinOp.and IntKind.u64 (x : Int) (IntKind.u64.wrap (-(x : Int))) * 285870213051353865) / 288230376151711744 = ((a * 285870213051353865 % 18446744073709551616 / 288230376151711744 : Nat) : Int) := by
 have e1 : IntKind.u64.wrap (-(x : Int)) = ((18446744073709551616 - x : Nat) : Int) := by rw [IntKind.wrap_u64]; omega
 rw [e1, bits_and_u64_nat x _ hx (by omega), hlow, IntKind.wrap_u64]
 omega
set_option maxHeartbeats 1000000 in
theorem tz64_core (x k idx : Nat) (w : World) (hx0 : ((x : Int) == 0) = false)
  (key : IntKind.u64.wrap (bits BinOp.and IntKind.u64 (x : Int) (IntKind.u64.wrap (-(x : Int))) * 285870213051353865) / 288230376151711744 = (idx : Int))
  (hi : idx < 64) (hk : k < 64) (hcell : w.cell? ⟨0, idx, none⟩ = some (.int .u8 k)) :
  Calls Tryz.prog 104 #[.int .u64 x] w fun e w' => e = .returned (.int .i64 k) ∧ w' = w := by
 go_enter Tryz.func104, Tryz.ntmps104
 go_wp2_with (simp only [key])
 go_ret
 exact ⟨rfl, rfl⟩
theorem tz_any (x : Nat) (hx : x < 18446744073709551616) (hx0 : x ≠ 0) (w : World) (hT : Tb w) :
  Calls Tryz.prog 104 #[.int .u64 x] w fun e w' => e = .returned (.int .i64 (Lib.ctz 64 x)) ∧ w' = w := by
 obtain ⟨hlow, hk⟩ := Lib.lowest_bit 64 x hx0 hx
 obtain ⟨hi, htab⟩ := Lib.deBruijn64_at _ hk
 have hc := hT _ hi
 rw [htab] at hc
 exact tz64_core x _ _ w (beq_eq_false_iff_ne.2 (by omega)) (tz64_key x _ hx hx0 hlow) hi hk hc
theorem ctz_bit {x : Nat} (hx : x < 18446744073709551616) (hx0 : x ≠ 0) : Lib.ctz 64 x < 64 ∧ x.testBit (Lib.ctz 64 x) = true ∧ (∀ j, j < Lib.ctz 64 x → x.testBit j = false) ∧ ∀ j, (x &&& (x - 1)).testBit j = (decide (Lib.ctz 64 x < j) && x.testBit j) := by
 obtain ⟨m, hm, hk⟩ := Lib.ctzFrom_spec 64 x (by omega) hx
 have e : Lib.ctz 64 x = Lib.ctzFrom 64 x := by simp [Lib.ctz, hx0]
 rw [e]
 generalize Lib.ctzFrom 64 x = k at *
 have h1 : ∀ j, x.testBit j = (decide (k ≤ j) && (2 * m + 1).testBit (j - k)) := by
  intro j
  rw [hm, Nat.mul_comm, Nat.testBit_mul_two_pow]
 have hp : 0 < 2 ^ k := Nat.pow_pos (by decide)
 have h2 : x - 1 = 2 ^ k * (2 * m) + (2 ^ k - 1) := by
  rw [hm, Nat.mul_add]; omega
 refine ⟨hk, by rw [h1]; simp, fun j hj => by rw [h1]; simp; omega, fun j => ?_⟩
 rw [Nat.testBit_and, h1, h2, Nat.testBit_two_pow_mul_add _ (by omega)]
 by_cases hj : j < k
 ·have h3 : ¬ k ≤ j := by omega
  simp [h3]
 ·rw [if_neg hj]
  by_cases hjk : j = k
  ·subst hjk; simp
  ·obtain ⟨i, rfl⟩ : ∃ i, j = k + (i + 1) := ⟨j - k - 1, by omega⟩
   have e3 : k + (i + 1) - k = i + 1 := by omega
   rw [e3, Nat.testBit_succ, Nat.testBit_succ]
   have d1 : (2 * m + 1) / 2 = m := by omega
   have d2 : 2 * m / 2 = m := by omega
   rw [d1, d2]
   have : k < k + (i + 1) := by omega
   simp
def FsIs (x y : Nat → Nat) (r : Int) : Prop := (∃ s : Nat, s < 2048 ∧ r = s ∧ mem x s = true ∧ mem y s = true) ∨ (r = -1 ∧ ∀ s, s < 2048 → mem x s = true → mem y s = false)
theorem and_word (x y : Nat → Nat) (i j : Nat) (hj : j < 64) : (x i &&& y i).testBit j = (mem x (i * 64 + j) && mem y (i * 64 + j)) := by
 unfold mem
 rw [Nat.testBit_and, show (i * 64 + j) / 64 = i by omega, show (i * 64 + j) % 64 = j by omega]
set_option maxHeartbeats 1000000 in
theorem firstOf_any (b o c q : Nat) (x y : Nat → Nat) (w : World) (hx : St w b o x) (hy : St w c q y) (hT : Tb w) :
  Calls Tryz.prog 74 #[.pointer (some ⟨b, o, none⟩), .pointer (some ⟨c, q, none⟩)] w fun e w' => (∃ r, e = .returned (.int .i64 r) ∧ FsIs x y r) ∧ Sm w w' := by
 have HX : Hid (St w b o x) := hx
 have HY : Hid (St w c q y) := hy
 have HT : Hid (Tb w) := hT
 clear hx hy hT
 go_enter Tryz.func74, Tryz.ntmps74
 go_wp2
 go_loopw [7] (fun i wr => ∃ k : Nat, k ≤ 32 ∧ i = .int .i64 k ∧ Hid (∀ s, s < k * 64 → mem x s = true → mem y s = false) ∧ Sm w wr) (fun i _ => 32 - (intOf i).toNat)
 case atStart => exact ⟨0, by omega, rfl, hid (fun s hs => by omega), Sm.refl _⟩
 case round =>
  obtain ⟨k, hk, rfl, H, hsm⟩ := hrel
  by_cases hlt : k < 32
  ·have h1 := (hsm.st HX.out).cell k hlt
   have h2 := (hsm.st HY.out).cell k hlt
   have E : Hid (bits BinOp.and IntKind.u64 (x k : Nat) (y k : Nat) = ((x k &&& y k : Nat) : Int)) := bits_and_u64_nat _ _ (HX.out.small k hlt) (HY.out.small k hlt)
   obtain ⟨v, hv⟩ : ∃ v, v = x k &&& y k := ⟨_, rfl⟩
   have hvs : v < 18446744073709551616 := by rw [hv]; exact Nat.lt_of_le_of_lt Nat.and_le_left (HX.out.small k hlt)
   rw [← hv] at E
   have HV : Hid (v = x k &&& y k) := hv
   clear hv
   by_cases h0 : v = 0
   ·subst h0
    go_wp2_with fail
    go_region
    rw [E.out]
    go_wp2
    go_roundw
    case rel =>
     refine ⟨k + 1, by omega, by go_num, hid (fun s hs hm => ?_), hsm.drew⟩
     by_cases hs2 : s < k * 64
     ·exact H.out s hs2 hm
     ·have := and_word x y k (s - k * 64) (by omega)
      rw [← HV.out, show k * 64 + (s - k * 64) = s by omega, hm] at this
      simpa using this.symm
    case measure => simp [intOf]; omega
   ·have hn : ((v : Int) == 0) = false := beq_eq_false_iff_ne.2 (by omega)
    have C : Hid (Calls Tryz.prog 104 #[.int .u64 v] wr.drew fun e w' => e = .returned (.int .i64 (Lib.ctz 64 v)) ∧ w' = wr.drew) := tz_any v hvs h0 _ (hsm.drew.tb HT.out)
    obtain ⟨hz, hb, _⟩ := ctz_bit hvs h0
    have HB : Hid (v.testBit (Lib.ctz 64 v) = true) := hb
    clear hb
    generalize Lib.ctz 64 v = z at *
    go_wp2_with fail
    go_region
    rw [E.out]
    go_wp2_with fail
    refine C.out.mono ?_
    rintro e w' ⟨rfl, rfl⟩
    go_wp2
    go_ret
    refine ⟨⟨_, rfl, Or.inl ⟨k * 64 + z, by omega, by omega, ?_⟩⟩, hsm.drew⟩
    have := and_word x y k z hz
    rw [← HV.out, HB.out] at this
    simpa using this.symm
  ·go_wp2
   go_ret
   exact ⟨⟨_, rfl, Or.inr ⟨rfl, fun s hs => H.out s (by omega)⟩⟩, hsm⟩
end Go.Proofs.YtmdpbaobihdgkaaGreatDoor
