/- watchref.Parts, by its contract. -/
import Derived.Test.YtjfanphbjngfeaaRefComes
import Derived.Test.YtjfanphbjngfeaaSccPartsWalk
namespace Go.Proofs.Ytjfanphbjngfeaa
open Go.RowKit

theorem Try.info33 : (Try.prog.info? 33).map (fun i => (i.zero, i.size, i.bytes)) = some (some (.slice none 0 0), 1, 24) := by kernel_rfl

/-- The rows of what comes from each of the first k nodes. -/
structure Fr (w wr : World) (G : Nat) (L : Nat → Nat) (Z : Nat → Nat → Int) (k : Nat) (rb : Nat → Nat) (R : Nat → Nat → Bool) : Prop where
  below : Below w.heap.size w wr
  row : wr.rowIs w.heap.size 33 G (fun x => if x < k then .slice (some ⟨rb x, 0, none⟩) G G else .slice none 0 0)
  rows : ∀ x, x < k → w.heap.size < rb x ∧ wr.rowIs (rb x) 4 G (fun y => .bool (R x y)) ∧ ∀ y, y < G → (R x y = true ↔ Rch (Ego G L Z) x y)

theorem Fr.next {w wr w5 : World} {G : Nat} {L : Nat → Nat} {Z : Nat → Nat → Int} {k : Nat} {rb : Nat → Nat} {R : Nat → Nat → Bool} (h : Fr w wr G L Z k rb R) (hb : Below wr.heap.size wr w5) {nb : Nat} (hnb : wr.heap.size ≤ nb) {R5 : Nat → Bool}
    (hrow : w5.rowIs nb 4 G (fun y => .bool (R5 y))) (hR : ∀ y, y < G → (R5 y = true ↔ Rch (Ego G L Z) k y)) :
    ∃ rb' R', Fr w (w5.setCell ⟨w.heap.size, k, none⟩ (.slice (some ⟨nb, 0, none⟩) G G)) G L Z (k + 1) rb' R' := by
  have hlt := h.row.lt
  refine ⟨fun x => if x = k then nb else rb x, fun x => if x = k then R5 else R x, (h.below.trans (hb.mono h.below.size)).setCell (Nat.le_refl _) _, ?_, fun x hx => ?_⟩
  · refine ((h.row.of_block (hb.block _ hlt)).set k _).congr (fun x _ => ?_)
    show (if x = k then Value.slice (some ⟨nb, 0, none⟩) G G else if x < k then .slice (some ⟨rb x, 0, none⟩) G G else .slice none 0 0) = if x < k + 1 then .slice (some ⟨if x = k then nb else rb x, 0, none⟩) G G else .slice none 0 0
    by_cases e : x = k
    · rw [if_pos e, if_pos (by omega), if_pos e]
    · rw [if_neg e, if_neg e]
      by_cases e2 : x < k
      · rw [if_pos e2, if_pos (by omega)]
      · rw [if_neg e2, if_neg (by omega)]
  · by_cases e : x = k
    · subst e
      simp only [if_true]
      exact ⟨by omega, hrow.setOther (by show nb ≠ w.heap.size; omega) _, hR⟩
    · simp only [if_neg e]
      obtain ⟨a, b, c⟩ := h.rows x (by omega)
      exact ⟨a, (b.of_block (hb.block _ b.lt)).setOther (by show rb x ≠ w.heap.size; omega) _, c⟩

def pf (ml : Nat → Nat) (k x : Nat) : Int := if x < k then ((cs ml (ml x) : Nat) : Int) else 0
/-- What the number of node k is, the nodes below j looked at. -/
def Pv (G : Nat) (L : Nat → Nat) (Z : Nat → Nat → Int) (ml : Nat → Nat) (k j : Nat) (v : Int) : Prop := (v = -1 ∧ ∀ b, b < j → ¬ Mut (Ego G L Z) k b) ∨ (v = ((cs ml (ml k) : Nat) : Int) ∧ ml k < k)

section
variable {G : Nat} {L : Nat → Nat} {Z : Nat → Nat → Int} {ml : Nat → Nat} {k j : Nat}
theorem Pv.on (h : Pv G L Z ml k j (-1)) (hn : ¬ Mut (Ego G L Z) k j) : Pv G L Z ml k (j + 1) (-1) := by
  rcases h with ⟨_, h⟩ | ⟨h, _⟩
  · refine Or.inl ⟨rfl, fun b hb => ?_⟩
    by_cases e : b = j
    · subst e; exact hn
    · exact h b (by omega)
  · omega
theorem Pv.hit (hI : IsParts G L Z ml) (hk : k < G) (hj : j < k) (hm : Mut (Ego G L Z) k j) : Pv G L Z ml k (j + 1) ((cs ml (ml j) : Nat) : Int) := by
  obtain ⟨h1, h2⟩ := (hI k hk).2.2 j (by omega) hm
  exact Or.inr ⟨by rw [h1], by omega⟩
/-- No node before it is of its part: it is the least one. -/
theorem Pv.least (hI : IsParts G L Z ml) (hk : k < G) (h : Pv G L Z ml k k (-1)) : ml k = k := by
  rcases h with ⟨_, h⟩ | ⟨h, _⟩
  · by_cases e : ml k = k
    · exact e
    · exact absurd (hI k hk).2.1 (h _ (by have := hI.le hk; omega))
  · omega
theorem pf_upd (ml : Nat → Nat) (k x : Nat) : upd (pf ml k) k ((cs ml (ml k) : Nat) : Int) x = pf ml (k + 1) x := by
  by_cases e : x = k
  · subst e; rw [upd_at]; unfold pf; rw [if_pos (by omega)]
  · rw [upd_ne _ _ _ _ e]
    unfold pf
    by_cases e2 : x < k
    · rw [if_pos e2, if_pos (by omega)]
    · rw [if_neg e2, if_neg (by omega)]
end

structure Pw (w2 wr : World) (G : Nat) (F : Nat → Int) : Prop where
  below : Below w2.heap.size w2 wr
  row : wr.rowIs w2.heap.size 3 G (fun x => .int .i64 (F x))
theorem Pw.set {w2 wr : World} {G : Nat} {F : Nat → Int} (h : Pw w2 wr G F) (x : Nat) (v : Int) : Pw w2 (wr.setCell ⟨w2.heap.size, x, none⟩ (.int .i64 v)) G (upd F x v) :=
  ⟨h.below.setCell (Nat.le_refl _) _, (h.row.set x _).congr (fun y _ => by
    by_cases e : y = x
    · subst e; rw [if_pos rfl, upd_at]
    · rw [if_neg e, upd_ne _ _ _ _ e])⟩
theorem Pw.congr {w2 wr : World} {G : Nat} {F F' : Nat → Int} (h : Pw w2 wr G F) (e : ∀ x, x < G → F x = F' x) : Pw w2 wr G F' := ⟨h.below, h.row.congr (fun x hx => by rw [e x hx])⟩
theorem upd_twice (F : Nat → Int) (k : Nat) (v v' : Int) (x : Nat) : upd (upd F k v) k v' x = upd F k v' x := by
  by_cases e : x = k
  · subst e; rw [upd_at, upd_at]
  · rw [upd_ne _ _ _ _ e, upd_ne _ _ _ _ e, upd_ne _ _ _ _ e]

def RefPartsIs (G : Nat) (ml : Nat → Nat) (w w' : World) (e : Ending) : Prop :=
  ∃ pb : Nat, e = .returned (.slice (some ⟨pb, 0, none⟩) G G) ∧ Below w.heap.size w w' ∧ w'.rowIs pb 3 G (fun x => .int .i64 (partNo ml x))

set_option maxHeartbeats 1000000 in
theorem refParts_any (ga : Option Addr) (G gc : Nat) (L : Nat → Nat) (Z : Nat → Nat → Int) (ml : Nat → Nat) (w : World) (hL : ∀ r, r < G → L r ≤ 140737488355328) (h : Gr w ga G L Z) (h0 : errG G L Z = 0) (hI : IsParts G L Z ml) :
    Calls Try.prog 17 #[.slice ga G gc] w fun e w' => RefPartsIs G ml w w' e := by
  obtain ⟨hG, _⟩ := errG_zero h0
  have HL : Hid (∀ r, r < G → L r ≤ 140737488355328) := hL
  have HG : Hid (Gr w ga G L Z) := h
  have HE : Hid (errG G L Z = 0) := h0
  have HI : Hid (IsParts G L Z ml) := hI
  clear h hL h0 hI
  have hmk := run_make_row' (P := Try.prog) 56 33 (.slice none 0 0) 24 Try.underlying56 Try.info33 rfl .i64 .i64 G (by omega) (by omega)
  go_enter Try.func17, Try.ntmps17
  go_wp2
  clear hmk
  go_loopw [4] (fun i wr => ∃ k : Nat, k ≤ G ∧ i = .int .i64 k ∧ Hid (∃ rb R, Fr w wr G L Z k rb R)) (fun i _ => G - (intOf i).toNat)
  case atStart => exact ⟨0, Nat.zero_le _, rfl, hid ⟨fun _ => 0, fun _ _ => false, (Below.refl _ _).alloc (Nat.le_refl _) _, (World.rowIs_made w (.slice none 0 0) G 33).congr (fun x _ => by rw [if_neg (by omega)]), fun x hx => by omega⟩⟩
  case round =>
    obtain ⟨k, hk, rfl, HF⟩ := hrel
    by_cases hlt : k < G
    · have hkz : (k : Int) < G := by omega
      obtain ⟨rb, R, hF⟩ := HF.out
      have HF1 : Hid (Fr w wr G L Z k rb R) := hF
      clear hF HF
      go_wp2_with fail
      refine (refComes_any ga G gc L Z (some ⟨wr.heap.size, 0, none⟩) 1 1 (fun _ => (k : Int)) _ HL.out (by omega) (HG.out.below (HF1.out.below.alloc HF1.out.below.size _)) (lit_row _ _ _ rfl) (errF_one HE.out hlt)).mono ?_
      rintro e w5 ⟨R5, rfl, hbel5, hrow5, hR5⟩
      have hb5 : Below wr.heap.size wr w5 := ((Below.refl _ _).alloc (Nat.le_refl _) _).trans (hbel5.mono (by simp))
      have hck : w5.cell? ⟨w.heap.size, k, none⟩ = some (.slice none 0 0) := by
        rw [hb5.cell (p := ⟨w.heap.size, k, none⟩) HF1.out.row.lt, HF1.out.row.cell hlt, if_neg (by omega)]
      have hcz : w5.frozen? ⟨w.heap.size, k, none⟩ = false := (HF1.out.row.of_block (hb5.block _ HF1.out.row.lt)).frozen k
      have HF2 : Hid (∃ rb' R', Fr w (w5.setCell ⟨w.heap.size, k, none⟩ (.slice (some ⟨(wr.alloc (.cells #[.int .i64 k] 3)).heap.size, 0, none⟩) G G)) G L Z (k + 1) rb' R') := HF1.out.next hb5 (by simp) hrow5 (fun y hy => (hR5 y hy).trans comes_one)
      clear hbel5 hrow5 hR5 hb5 HF1
      generalize (wr.alloc (.cells #[.int .i64 k] 3)).heap.size = nb at *
      go_wp2
      go_roundw
      case rel => exact ⟨k + 1, by omega, by go_num, HF2⟩
      case measure => simp [intOf]; omega
    · have hkG : k = G := by omega
      subst hkG
      obtain ⟨rb, R, hF⟩ := HF.out
      have HF1 : Hid (Fr w wr k L Z k rb R) := hF
      clear hF HF
      rename World => wr0
      have hmk := run_make_row' (P := Try.prog) 30 3 (.int .i64 0) 8 Try.underlying30 Try.info3 rfl .i64 .i64 k (by omega) (by omega)
      go_wp2
      clear hmk
      go_loopw [6, 7] (fun nx i w3 => ∃ k2 : Nat, k2 ≤ k ∧ i = .int .i64 k2 ∧ nx = .int .i64 (cs ml k2 : Nat) ∧ Hid (Pw wr0 w3 k (pf ml k2))) (fun _ i _ => k - (intOf i).toNat)
      case atStart => exact ⟨0, Nat.zero_le _, rfl, rfl, hid ⟨(Below.refl _ _).alloc (Nat.le_refl _) _, (World.rowIs_made wr0 (.int .i64 0) k 3).congr (fun x _ => by unfold pf; rw [if_neg (by omega)])⟩⟩
      case round =>
        obtain ⟨k2, hk2, rfl, rfl, HP⟩ := hrel
        by_cases hlt2 : k2 < k
        · have hkz2 : (k2 : Int) < k := by omega
          have hck := cs_le ml k2
          have hck2 := HP.out.row.cell hlt2
          have hcz2 := HP.out.row.frozen k2
          have HP2 : Hid (Pw wr0 (wr.setCell ⟨wr0.heap.size, k2, none⟩ (.int .i64 (-1))) k (upd (pf ml k2) k2 (-1))) := HP.out.set k2 (-1)
          clear HP
          go_wp2
          go_loopw [8] (fun i w3 => ∃ j : Nat, j ≤ k2 ∧ i = .int .i64 j ∧ Hid (∃ v : Int, Pw wr0 w3 k (upd (pf ml k2) k2 v) ∧ Pv k L Z ml k2 j v)) (fun i _ => k2 - (intOf i).toNat)
          case atStart => exact ⟨0, Nat.zero_le _, rfl, hid ⟨-1, HP2.out, Or.inl ⟨rfl, fun b hb => by omega⟩⟩⟩
          case round =>
            obtain ⟨j, hj, rfl, HX⟩ := hrel
            clear HP2 hck2 hcz2
            obtain ⟨v, hP, hV⟩ := HX.out
            have hck2 := hP.row.cell hlt2
            rw [upd_at] at hck2
            have hcz2 := hP.row.frozen k2
            by_cases hv : v = -1
            · subst hv
              by_cases hjl : j < k2
              · have hjz : (j : Int) < k2 := by omega
                have hjk : (j : Int) < k := by omega
                have hf1 : wr.cell? ⟨w.heap.size, k2, none⟩ = some (.slice (some ⟨rb k2, 0, none⟩) k k) := by
                  rw [hP.below.cell (p := ⟨w.heap.size, k2, none⟩) HF1.out.row.lt, HF1.out.row.cell hlt2, if_pos hlt2]
                have hf2 : wr.cell? ⟨w.heap.size, j, none⟩ = some (.slice (some ⟨rb j, 0, none⟩) k k) := by
                  rw [hP.below.cell (p := ⟨w.heap.size, j, none⟩) HF1.out.row.lt, HF1.out.row.cell (i := j) (by omega), if_pos (by omega)]
                obtain ⟨_, r1, q1⟩ := HF1.out.rows k2 hlt2
                obtain ⟨_, r2, q2⟩ := HF1.out.rows j (by omega)
                have hr1 : wr.cell? ⟨rb k2, j, none⟩ = some (.bool (R k2 j)) := by
                  rw [hP.below.cell (p := ⟨rb k2, j, none⟩) r1.lt, r1.cell (i := j) (by omega)]
                have hr2 : wr.cell? ⟨rb j, k2, none⟩ = some (.bool (R j k2)) := by
                  rw [hP.below.cell (p := ⟨rb j, k2, none⟩) r2.lt, r2.cell (i := k2) hlt2]
                have q1 := q1 j (by omega)
                have q2 := q2 k2 hlt2
                have hoj : wr.cell? ⟨wr0.heap.size, j, none⟩ = some (.int .i64 (cs ml (ml j) : Nat)) := by
                  rw [hP.row.cell (i := j) (by omega), upd_ne _ _ _ _ (by omega)]
                  unfold pf
                  rw [if_pos hjl]
                have HPj : Hid (Pw wr0 (wr.setCell ⟨wr0.heap.size, k2, none⟩ (.int .i64 (cs ml (ml j) : Nat))) k (upd (pf ml k2) k2 (cs ml (ml j) : Nat))) := (hP.set k2 (cs ml (ml j) : Nat)).congr (fun x _ => upd_twice _ _ _ _ x)
                have HPn : Hid (Pw wr0 wr k (upd (pf ml k2) k2 (-1))) := hP
                clear r1 r2 hP HX
                generalize rb k2 = b1 at *
                generalize rb j = b2 at *
                cases h1 : R k2 j
                · have HV : Hid (Pv k L Z ml k2 (j + 1) (-1)) := hV.on (fun hm => by have := q1.2 hm.1; rw [h1] at this; cases this)
                  rw [h1] at hr1
                  clear hV q1 q2 h1
                  go_wp2
                  go_roundw
                  case rel => exact ⟨j + 1, by omega, by go_num, hid ⟨_, HPn.out, HV.out⟩⟩
                  case measure => simp [intOf]; omega
                · cases h2 : R j k2
                  · have HV : Hid (Pv k L Z ml k2 (j + 1) (-1)) := hV.on (fun hm => by have := q2.2 hm.2; rw [h2] at this; cases this)
                    rw [h1] at hr1
                    rw [h2] at hr2
                    clear hV q1 q2 h1 h2
                    go_wp2
                    go_roundw
                    case rel => exact ⟨j + 1, by omega, by go_num, hid ⟨_, HPn.out, HV.out⟩⟩
                    case measure => simp [intOf]; omega
                  · have HV : Hid (Pv k L Z ml k2 (j + 1) (cs ml (ml j) : Nat)) := Pv.hit HI.out hlt2 hjl ⟨q1.1 h1, q2.1 h2⟩
                    rw [h1] at hr1
                    rw [h2] at hr2
                    clear hV q1 q2 h1 h2
                    generalize cs ml (ml j) = pj at *
                    go_wp2
                    go_roundw
                    case rel => exact ⟨j + 1, by omega, by go_num, hid ⟨_, HPj.out, HV.out⟩⟩
                    case measure => simp [intOf]; omega
              · have hjk : j = k2 := by omega
                subst hjk
                have hm := hV.least HI.out hlt2
                have HN : Hid (cs ml (j + 1) = cs ml j + 1) := hid (by simp only [cs]; rw [if_pos hm])
                have hcs : ((cs ml (ml j) : Nat) : Int) = (cs ml j : Nat) := by rw [hm]
                have HPn : Hid (Pw wr0 (wr.setCell ⟨wr0.heap.size, j, none⟩ (.int .i64 (cs ml j : Nat))) k (pf ml (j + 1))) := (hP.set j (cs ml j : Nat)).congr (fun x _ => by rw [upd_twice, ← hcs]; exact pf_upd ml j x)
                clear hP hV HX hm hcs
                generalize cs ml j = cj at *
                go_wp2
                go_roundw
                case rel => exact ⟨j + 1, by omega, by go_num, by rw [HN.out]; go_num, HPn⟩
                case measure => simp [intOf]; omega
            · rcases hV with ⟨h1, _⟩ | ⟨hv2, hm⟩
              · exact absurd h1 hv
              · subst hv2
                have HN : Hid (cs ml (k2 + 1) = cs ml k2) := hid (by simp only [cs]; rw [if_neg (by omega)]; rfl)
                have HPn : Hid (Pw wr0 wr k (pf ml (k2 + 1))) := hP.congr (fun x _ => pf_upd ml k2 x)
                clear hP HX hm hv
                generalize cs ml (ml k2) = pk at *
                have hnz : ¬ (pk : Int) < 0 := by omega
                by_cases hjl : j < k2
                · have hjz : (j : Int) < k2 := by omega
                  go_wp2
                  go_roundw
                  case rel => exact ⟨k2 + 1, by omega, by go_num, by rw [HN.out], HPn⟩
                  case measure => simp [intOf]; omega
                · have hjz : ¬ (j : Int) < k2 := by omega
                  go_wp2
                  go_roundw
                  case rel => exact ⟨k2 + 1, by omega, by go_num, by rw [HN.out], HPn⟩
                  case measure => simp [intOf]; omega
        · go_wp2
          go_ret
          exact ⟨wr0.heap.size, rfl, HF1.out.below.trans (HP.out.below.mono HF1.out.below.size), HP.out.row.congr (fun x hx => by unfold pf partNo; rw [if_pos (by omega)])⟩

end Go.Proofs.Ytjfanphbjngfeaa
