
import Derived.Deep.LoopGhost
import Derived.Deep.Cut
import Derived.Deep.OwnRows
import Derived.Maps.AppendAt
import Derived.WalkKit
import Derived.WalkSpells
import Derived.WalkLawsBesides
import Derived.Deep.QuietTactic
import Derived.BigQuiet
import Derived.Below
import Derived.Deep.Heap
import Derived.RegionTactic
import Derived.Deep.Quiet
import Derived.Test.YthpbgfodejoecaaBfsJ
import Derived.Test.YthpbgfodejoecaaDistJ
import Derived.Test.YthpbgfodejoecaaDist2J
import Derived.Test.YthpbgfodejoecaaLeafJ
import Derived.Test.YthpbgfodejoecaaProc
import Derived.Test.YthpbgfodejoecaaProc2
import Derived.Test.YthpbgfodejoecaaSpFaceJ
import Derived.Test.YthpbgfodejoecaaWScSearch2
import Derived.Test.YthpbgfodejoecaaWBaseJ
/- walk, by its contract. -/
namespace Go.Proofs.Ythpbgfodejoecaa
open Go.RowKit

def sumR (f : Nat → Nat) : Nat → Nat
  | 0 => 0
  | n + 1 => sumR f n + f n

theorem sumR_past {f f' : Nat → Nat} {x : Nat} (h : ∀ y, y ≠ x → f' y = f y) : ∀ n, n ≤ x → sumR f' n = sumR f n
  | 0, _ => rfl
  | n + 1, hn => by simp only [sumR]; rw [sumR_past h n (by omega), h n (by omega)]

theorem sumR_less {f f' : Nat → Nat} {x : Nat} (h : ∀ y, y ≠ x → f' y = f y) (hx : f' x + 1 = f x) : ∀ n, x < n → sumR f' n + 1 = sumR f n
  | n + 1, hn => by
    simp only [sumR]
    by_cases e : n = x
    · subst e; rw [sumR_past h n (Nat.le_refl _)]; omega
    · have := sumR_less h hx n (by omega); rw [h n e]; omega

/-- How much there is still to do. -/
def todo (G : Nat) (L : Nat → Nat) (s : ScSt) : Nat := sumR (fun x => ((L x : Int) - s.nxt x).toNat) G + s.path.length + cnt (fun x => s.met x - 1) G

def Tk (G : Nat) (s : ScSt) : Prop := s.cnt + (cnt (fun x => s.met x - 1) G : Int) = G

section
variable {G : Nat} {L : Nat → Nat} {Z : Nat → Nat → Int} {s : ScSt}

theorem sorted_len {f : Nat → Int} {c : Int} : ∀ (l : List Nat) (lo : Int), lo ≤ c → (∀ a ∈ l, lo < f a ∧ f a ≤ c) → l.Pairwise (fun a b => f a < f b) → (l.length : Int) ≤ c - lo
  | [], lo, h, _, _ => by simp; omega
  | a :: r, lo, h, hr, hp => by
    rw [List.pairwise_cons] at hp
    have ha := hr a (by simp)
    have := sorted_len r (f a) ha.2 (fun b hb => ⟨hp.1 b hb, (hr b (by simp [hb])).2⟩) hp.2
    simp
    omega

theorem Tj.opnLen (h : Tj G L Z s) : (s.opn.length : Int) ≤ s.cnt := by
  have := sorted_len (f := s.met) (c := s.cnt) s.opn 0 h.cnt0 (fun a ha => by
    have h1 := h.metR a (h.opnIn a ha)
    have h2 := (h.isOpen ha).1
    omega) h.opnS
  omega

theorem Tj.pathLen (h : Tj G L Z s) : (s.path.length : Int) ≤ s.cnt := by
  have := sorted_len (f := s.met) (c := s.cnt) s.path 0 h.cnt0 (fun a ha => by
    have h1 := h.metR a (h.pathG ha)
    have h2 := (h.isOpen (h.pathSub a ha)).1
    omega) (h.pathS.imp (fun h => h.1))
  omega

theorem Tk.le (h : Tk G s) : s.cnt ≤ G := by unfold Tk at h; omega

theorem unmet_enter (s : ScSt) (x : Nat) (hx : x < G) (h0 : s.met x = 0) (hc : 0 ≤ s.cnt) : cnt (fun y => (enterS s x).met y - 1) G + 1 = cnt (fun y => s.met y - 1) G := by
  have e : (fun y => (enterS s x).met y - 1) = upd (fun y => s.met y - 1) x (s.cnt + 1 - 1) := by
    funext y
    show upd s.met x (s.cnt + 1) y - 1 = _
    by_cases h : y = x
    · subst h; rw [upd_at, upd_at]
    · rw [upd_ne _ _ _ _ h, upd_ne _ _ _ _ h]
  rw [e]
  exact cnt_upd _ x _ (by omega) (by omega) G hx

theorem Tk.enter (h : Tk G s) {x : Nat} (hx : x < G) (h0 : s.met x = 0) (hc : 0 ≤ s.cnt) : Tk G (enterS s x) := by
  have := unmet_enter s x hx h0 hc
  unfold Tk at h ⊢
  show s.cnt + 1 + _ = _
  omega

theorem todo_enter {x : Nat} (hx : x < G) (h0 : s.met x = 0) (hc : 0 ≤ s.cnt) : todo G L (enterS s x) = todo G L s := by
  have := unmet_enter s x hx h0 hc
  have hp : (enterS s x).path.length = s.path.length + 1 := by show (s.path ++ [x]).length = _; simp
  have hn : (enterS s x).nxt = s.nxt := rfl
  unfold todo
  rw [hp, hn]
  omega

theorem todo_bump {n j : Nat} (hn : n < G) (hj : j < L n) (hjn : s.nxt n = j) : todo G L { s with nxt := upd s.nxt n ((j : Int) + 1) } + 1 = todo G L s := by
  have := sumR_less (f := fun x => ((L x : Int) - s.nxt x).toNat) (f' := fun x => ((L x : Int) - upd s.nxt n ((j : Int) + 1) x).toNat) (x := n) (fun y hy => by rw [upd_ne _ _ _ _ hy]) (by rw [upd_at, hjn]; omega) G hn
  unfold todo
  show sumR (fun x => ((L x : Int) - upd s.nxt n ((j : Int) + 1) x).toNat) G + s.path.length + cnt (fun x => s.met x - 1) G + 1 = _
  omega

/-- What a list that holds n is made of. -/
theorem Tj.split (h : Tj G L Z s) {n : Nat} (hn : n ∈ s.opn) : ∃ A B, s.opn = A ++ (n :: B) ∧ n ∉ B := by
  obtain ⟨A, B, e⟩ := List.append_of_mem hn
  refine ⟨A, B, e, fun hB => ?_⟩
  have := h.opnS
  rw [e, List.pairwise_append, List.pairwise_cons] at this
  have := this.2.1.1 n hB
  omega
end

/-- What holds at the loop's head. -/
structure Run (w wr : World) (y : Lay) (ga : Option Addr) (G gc : Nat) (L : Nat → Nat) (Z : Nat → Nat → Int) (s0 : ScSt) (root : Nat) (s : ScSt) (pv ov : Value) : Prop where
  sr : Sr w wr y ga G gc s pv ov
  tj : Tj G L Z s
  tk : Tk G s
  mono : ∀ x, x < G → s0.met x ≠ 0 → s.met x ≠ 0
  root : s.met root ≠ 0

def Walked (w w' : World) (y : Lay) (ga : Option Addr) (G gc : Nat) (L : Nat → Nat) (Z : Nat → Nat → Int) (s0 : ScSt) (root : Nat) : Prop := ∃ s pv ov, Run w w' y ga G gc L Z s0 root s pv ov ∧ s.path = []

set_option maxHeartbeats 2000000 in
set_option maxRecDepth 100000 in
theorem walk_any (w wr0 : World) (y : Lay) (ga : Option Addr) (G gc : Nat) (L : Nat → Nat) (Z : Nat → Nat → Int) (s0 : ScSt) (pv0 ov0 : Value) (root : Nat) (hG : G ≤ 20000) (hL : ∀ r, r < G → L r ≤ 140737488355328) (hr : root < G) (h : Gr w ga G L Z) (hS : Sr w wr0 y ga G gc s0 pv0 ov0) (hT : Tj G L Z s0) (hK : Tk G s0) (hp : s0.path = []) (h0 : s0.met root = 0) :
    Calls Try.prog 115 #[.pointer (some ⟨y.sb, 0, none⟩), .int .i64 root] wr0 fun e w' => e = .returned (.tuple #[]) ∧ Walked w w' y ga G gc L Z s0 root := by
  have HL : Hid (∀ r, r < G → L r ≤ 140737488355328) := hL
  obtain ⟨gb, go, hga, hgc⟩ := h
  obtain rfl := hga (by omega)
  have HGC : Hid (∀ r, r < G → ∃ a c, w.cell? ⟨gb, go + r, none⟩ = some (.slice a (L r) c) ∧ Row w a (L r) (Z r)) := hgc
  have hk := hK.le
  have CE : Hid (Calls Try.prog 117 #[.pointer (some ⟨y.sb, 0, none⟩), .int .i64 root] wr0 fun e w' => e = .returned (.tuple #[]) ∧ ∃ pv' ov', Sr w w' y (some ⟨gb, go, none⟩) G gc (enterS s0 root) pv' ov') :=
    enter_any w wr0 y _ G gc s0 pv0 ov0 root hr ⟨hT.cnt0, by omega⟩ (by rw [hp]; simp) (by have := hT.opnLen; omega) hS
  have HT1 : Hid (Tj G L Z (enterS s0 root) ∧ Tk G (enterS s0 root)) := ⟨hT.enter hr h0 (by rw [hp]; simp), hK.enter hr h0 hT.cnt0⟩
  have HC0 : Hid (0 ≤ s0.cnt) := hT.cnt0
  clear hL hgc hga hS hT hK hk hp h0
  go_enter Try.func115, Try.ntmps115
  go_wp2_with fail
  refine CE.out.mono ?_
  rintro e w1 ⟨rfl, pv1, ov1, hS1⟩
  have HX : Hid (Run w w1 y (some ⟨gb, go, none⟩) G gc L Z s0 root (enterS s0 root) pv1 ov1) := by
    refine ⟨hS1, HT1.out.1, HT1.out.2, fun x _ hm => ?_, ?_⟩
    · show upd s0.met root (s0.cnt + 1) x ≠ 0
      by_cases e : x = root
      · subst e; rw [upd_at]; have := HC0.out; omega
      · rw [upd_ne _ _ _ _ e]; exact hm
    · show upd s0.met root (s0.cnt + 1) root ≠ 0
      rw [upd_at]; have := HC0.out; omega
  clear hS1 HT1 HC0 CE
  go_wp2
  go_loopg [4] (todo G L (enterS s0 root)) (fun g _ wr => ∃ s pv ov, Hid (todo G L s ≤ g ∧ Run w wr y (some ⟨gb, go, none⟩) G gc L Z s0 root s pv ov))
  case atStart => exact ⟨_, _, _, hid ⟨Nat.le_refl _, HX.out⟩⟩
  case round =>
    obtain ⟨s, pv, ov, HR⟩ := hrel
    clear HX
    by_cases hpe : s.path = []
    · obtain ⟨pa, pc, rfl, _⟩ := own_ints HR.out.2.sr.pth
      have f5 : wr.cell? ⟨y.sb, 5, none⟩ = some (.slice pa s.path.length pc) := HR.out.2.sr.cells.cell (i := 5) (by omega)
      have hl0 : s.path.length = 0 := by rw [hpe]; rfl
      rw [hl0] at f5
      have HF : Hid (Walked w wr y (some ⟨gb, go, none⟩) G gc L Z s0 root) := ⟨s, _, _, HR.out.2, hpe⟩
      clear hpe hl0
      go_wp2
      go_end0
      exact ⟨rfl, HF.out⟩
    · obtain ⟨Q, n, hpQ⟩ : ∃ Q n, s.path = Q ++ [n] := ⟨s.path.dropLast, s.path.getLast hpe, (List.dropLast_concat_getLast hpe).symm⟩
      have hq : s.path.length = Q.length + 1 := by rw [hpQ]; simp
      obtain ⟨g, cap, rfl, hcap⟩ := own_form HR.out.2.sr.pth (by omega)
      have hlen : s.path.length ≤ 20000 := by have := HR.out.2.tj.pathLen; have := HR.out.2.tk.le; omega
      have holen : s.opn.length ≤ 20000 := by have := HR.out.2.tj.opnLen; have := HR.out.2.tk.le; omega
      have hnp : n ∈ s.path := by rw [hpQ]; simp
      have hnG := HR.out.2.tj.pathG hnp
      have hnz : (n : Int) < G := by omega
      have f5 : wr.cell? ⟨y.sb, 5, none⟩ = some (.slice (some ⟨g, 0, none⟩) s.path.length cap) := HR.out.2.sr.cells.cell (i := 5) (by omega)
      have cn := own_cell (i := Q.length) HR.out.2.sr.pth (by omega)
      have en : s.path.getD Q.length 0 = n := by rw [hpQ]; simp
      rw [en] at cn
      rw [hq] at f5 hcap hlen
      have HH : Hid (Run w wr y (some ⟨gb, go, none⟩) G gc L Z s0 root s (.slice (some ⟨g, 0, none⟩) (Q.length + 1) cap) ov) := by rw [← hq]; exact HR.out.2
      have HM : Hid (todo G L s ≤ gk) := HR.out.1
      have HQ : Hid (s.path = Q ++ [n]) := hpQ
      have HN : Hid (n ∈ s.path ∧ s.opn.length ≤ 20000) := ⟨hnp, holen⟩
      have hgk : 1 ≤ gk := by
        have := HM.out
        unfold todo at this
        omega
      have f0 : wr.cell? ⟨y.sb, 0, none⟩ = some (.slice (some ⟨gb, go, none⟩) G gc) := HH.out.sr.cells.cell (i := 0) (by omega)
      have f4 : wr.cell? ⟨y.sb, 4, none⟩ = some (.slice (some ⟨y.bn, 0, none⟩) G G) := HH.out.sr.cells.cell (i := 4) (by omega)
      have cx : wr.cell? ⟨y.bn, n, none⟩ = some (.int .i64 (s.nxt n)) := HH.out.sr.nxt.cell hnG
      obtain ⟨a4, c4, hg0, hr0⟩ := HGC.out n hnG
      have hgn : wr.cell? ⟨gb, go + n, none⟩ = some (.slice a4 (L n) c4) := by
        rw [HH.out.sr.below.cell (p := ⟨gb, go + n, none⟩) (World.block_lt_of_cell? _ _ hg0)]; exact hg0
      have HR4 : Hid (Row w a4 (L n) (Z n)) := hr0
      have hLn := HL.out n hnG
      have hnr := HH.out.tj.nxtR n hnG
      have hn0 := hnr.1
      have hn1 := hnr.2
      clear hq en hpQ hpe HR hg0 hr0 holen hnr hnp
      generalize hql : Q.length = q at *
      have HQL : Hid (Q.length = q) := hql
      clear hql
      by_cases hnx : s.nxt n = L n
      · have hb : (s.nxt n == (L n : Int)) = true := beq_iff_eq.2 hnx
        have HNX : Hid (s.nxt n = L n) := hnx
        clear hnx
        go_wp2_with fail
        go_quiet (fail)
        go_wp2_with fail
        go_quiet (fail)
        go_wp2_with fail
        by_cases hlm : s.low n = s.met n
        · obtain ⟨A, B, hAB, hnB⟩ := HH.out.tj.split (HH.out.tj.pathSub n HN.out.1)
          refine (leave_close w _ y _ G gc s _ ov n Q A B hnG HQ.out (by rw [HQ.out]; simp [HQL.out]; omega) hAB HH.out.tj.opnIn HN.out.2 hnB hlm (HH.out.sr.drewN _)).mono ?_
          rintro e w2 ⟨rfl, pv', m, ov', hm, hmin, hS'⟩
          have HF : Hid (∃ s' pv ov, todo G L s' ≤ gk - 1 ∧ Run w w2 y (some ⟨gb, go, none⟩) G gc L Z s0 root s' pv ov) := by
            refine ⟨closeS s A (n :: B) Q m, pv', ov', ?_, hS', HH.out.tj.close HQ.out HNX.out hlm hAB hm hmin, HH.out.tk, HH.out.mono, HH.out.root⟩
            have h1 := HM.out
            have h2 : s.path.length = Q.length + 1 := by rw [HQ.out]; simp
            unfold todo at h1 ⊢
            show sumR (fun x => ((L x : Int) - s.nxt x).toNat) G + Q.length + cnt (fun x => s.met x - 1) G ≤ gk - 1
            omega
          clear hAB hnB hm hmin hS' hlm
          go_wp2
          go_roundg (gk - 1)
          case measure => omega
          case rel => obtain ⟨s', pv, ov, h1, h2⟩ := HF.out; exact ⟨s', pv, ov, hid ⟨h1, h2⟩⟩
        · have hlt : s.low n < s.met n := by
            have ho := HH.out.tj.isOpen (HH.out.tj.pathSub n HN.out.1)
            have := (HH.out.tj.lowR n hnG ho.1 ho.2).2.1
            omega
          obtain ⟨P, b, hPb⟩ := HH.out.tj.hasBefore HQ.out hlt
          have hpp : s.path = (P ++ [b]) ++ [n] := by rw [HQ.out, hPb]
          have hbp : b ∈ s.path := by rw [hpp]; simp
          refine (leave_up w _ y _ G gc s _ ov n P b hnG (HH.out.tj.pathG hbp) hpp (by rw [HQ.out]; simp [HQL.out]; omega) hlm (HH.out.sr.drewN _)).mono ?_
          rintro e w2 ⟨rfl, pv', hS'⟩
          have HF : Hid (∃ s' pv ov, todo G L s' ≤ gk - 1 ∧ Run w w2 y (some ⟨gb, go, none⟩) G gc L Z s0 root s' pv ov) := by
            refine ⟨_, pv', ov, ?_, hS', HH.out.tj.up hpp HNX.out hlt, HH.out.tk, HH.out.mono, HH.out.root⟩
            have h1 := HM.out
            have h2 : s.path.length = (P ++ [b]).length + 1 := by rw [hpp]; simp
            unfold todo at h1 ⊢
            show sumR (fun x => ((L x : Int) - s.nxt x).toNat) G + (P ++ [b]).length + cnt (fun x => s.met x - 1) G ≤ gk - 1
            omega
          clear hPb hpp hbp hS' hlm hlt
          go_wp2
          go_roundg (gk - 1)
          case measure => omega
          case rel => obtain ⟨s', pv, ov, h1, h2⟩ := HF.out; exact ⟨s', pv, ov, hid ⟨h1, h2⟩⟩
      · obtain ⟨j, hj⟩ : ∃ j : Nat, s.nxt n = j := ⟨(s.nxt n).toNat, by omega⟩
        have hjL : j < L n := by omega
        have hb : ((j : Int) == (L n : Int)) = false := by rw [beq_eq_false_iff_ne]; omega
        have hjz : (j : Int) < (L n : Int) := by omega
        have HJ : Hid (s.nxt n = j) := hj
        have zx := HH.out.sr.nxt.frozen n
        rw [hj] at cx
        obtain ⟨rb, ro, hra, hrc⟩ := HR4.out
        obtain rfl := hra (by omega)
        have hzz := HH.out.tj.hZ n hnG j hjL
        obtain ⟨t, ht⟩ : ∃ t : Nat, Z n j = t := ⟨(Z n j).toNat, by omega⟩
        have htG : t < G := by omega
        have htz : (t : Int) < G := by omega
        have hct : wr.cell? ⟨rb, ro + j, none⟩ = some (.int .i64 t) := by
          rw [HH.out.sr.below.cell (p := ⟨rb, ro + j, none⟩) (World.block_lt_of_cell? _ _ (hrc j hjL)), hrc j hjL, ht]
        have HT : Hid (Z n j = t) := ht
        clear hnx hj hra hrc hzz ht hn0 hn1
        go_wp2_with fail
        go_quiet (fail)
        revert nq; intro nq1
        go_wp2_with fail
        go_quiet (fail)
        revert nq; intro nq2
        go_wp2_with fail
        go_quiet (fail)
        revert nq; intro nq3
        go_upto_region 7 with fail
        have S2 := (HH.out.sr.drewN (nq1 + nq2 + nq3)).setNxt n ((j : Int) + 1)
        clear f0 f4 f5 cn cx zx hgn hct
        generalize (wr.drewN (nq1 + nq2 + nq3)).setCell ⟨y.bn, n, none⟩ (.int .i64 ((j : Int) + 1)) = w2 at *
        have H2 : Hid (Sr w w2 y (some ⟨gb, go, none⟩) G gc { s with nxt := upd s.nxt n ((j : Int) + 1) } (.slice (some ⟨g, 0, none⟩) (q + 1) cap) ov) := S2
        have f2 : w2.cell? ⟨y.sb, 2, none⟩ = some (.slice (some ⟨y.bm, 0, none⟩) G G) := S2.cells.cell (i := 2) (by omega)
        have ct : w2.cell? ⟨y.bm, t, none⟩ = some (.int .i64 (s.met t)) := S2.met.cell htG
        have f7 : w2.cell? ⟨y.sb, 7, none⟩ = some (.slice (some ⟨y.bt, 0, none⟩) G G) := S2.cells.cell (i := 7) (by omega)
        have ctl : w2.cell? ⟨y.bt, t, none⟩ = some (.int .i64 (s.lst t)) := S2.lst.cell htG
        have HEg : Hid (Ego G L Z n t) := ⟨hnG, j, hjL, HT.out⟩
        have hzt : (Z n j).toNat = t := by rw [HT.out]; simp
        have HZT : Hid ((Z n j).toNat = t) := hzt
        have HTD : Hid (todo G L { s with nxt := upd s.nxt n ((j : Int) + 1) } + 1 = todo G L s) := todo_bump hnG hjL HJ.out
        clear S2 hzt
        by_cases hm : s.met t = 0
        · have hbm : (s.met t == 0) = true := beq_iff_eq.2 hm
          have hck := HH.out.tk.le
          have CE : Hid (Calls Try.prog 117 #[.pointer (some ⟨y.sb, 0, none⟩), .int .i64 t] w2 fun e w' => e = .returned (.tuple #[]) ∧ ∃ pv' ov', Sr w w' y (some ⟨gb, go, none⟩) G gc (enterS { s with nxt := upd s.nxt n ((j : Int) + 1) } t) pv' ov') :=
            enter_any w w2 y _ G gc { s with nxt := upd s.nxt n ((j : Int) + 1) } _ _ t htG ⟨HH.out.tj.cnt0, by show s.cnt ≤ 20000; omega⟩ (by show s.path.length ≤ 20000; rw [HQ.out]; simp [HQL.out]; omega) HN.out.2 H2.out
          have HE : Hid (Tj G L Z (enterS { s with nxt := upd s.nxt n ((j : Int) + 1) } t) ∧ Tk G (enterS { s with nxt := upd s.nxt n ((j : Int) + 1) } t) ∧ todo G L (enterS { s with nxt := upd s.nxt n ((j : Int) + 1) } t) + 1 ≤ gk ∧
              (∀ x, x < G → s0.met x ≠ 0 → upd s.met t (s.cnt + 1) x ≠ 0) ∧ upd s.met t (s.cnt + 1) root ≠ 0) := by
            have hc0 := HH.out.tj.cnt0
            have hmo : ∀ x, s.met x ≠ 0 → upd s.met t (s.cnt + 1) x ≠ 0 := fun x hx => by
              by_cases e : x = t
              · subst e; rw [upd_at]; omega
              · rw [upd_ne _ _ _ _ e]; exact hx
            have h1 := HH.out.tj.enter htG hm (fun a ha => by
              rw [HQ.out] at ha
              rcases List.mem_append.1 ha with h3 | h3
              · have := HH.out.tj.pathS
                rw [HQ.out, List.pairwise_append] at this
                exact (this.2.2 a h3 n (by simp)).2.on HEg.out
              · have : a = n := by simpa using h3
                subst this; exact RchW.edge HEg.out)
            have hnt : n ≠ t := fun e => (HH.out.tj.isOpen (HH.out.tj.pathSub n HN.out.1)).1 (by rw [e]; exact hm)
            have h2 := h1.bump (n := n) (j := j) (by show n ∈ s.path ++ [t]; exact List.mem_append.2 (Or.inl HN.out.1)) hjL HJ.out (by show upd s.met t (s.cnt + 1) (Z n j).toNat ≠ 0; rw [HZT.out, upd_at]; omega)
              (fun _ => by
                show upd s.low t (s.cnt + 1) n ≤ upd s.met t (s.cnt + 1) (Z n j).toNat
                rw [HZT.out, upd_at, upd_ne _ _ _ _ hnt]
                have ho := HH.out.tj.isOpen (HH.out.tj.pathSub n HN.out.1)
                have e1 := (HH.out.tj.lowR n hnG ho.1 ho.2).2.1
                have e2 := HH.out.tj.metR n hnG
                omega)
            refine ⟨h2, ?_, ?_, fun x hx h0 => hmo x (HH.out.mono x hx h0), hmo root HH.out.root⟩
            · exact Tk.enter (s := { s with nxt := upd s.nxt n ((j : Int) + 1) }) HH.out.tk htG hm hc0
            · rw [todo_enter (s := { s with nxt := upd s.nxt n ((j : Int) + 1) }) htG hm hc0, HTD.out]; exact HM.out
          clear hm hck
          go_wp2_with fail
          refine CE.out.mono ?_
          rintro e w3 ⟨rfl, pv3, ov3, hS3⟩
          have HF : Hid (∃ s' pv ov, todo G L s' ≤ gk - 1 ∧ Run w w3 y (some ⟨gb, go, none⟩) G gc L Z s0 root s' pv ov) :=
            ⟨_, pv3, ov3, by have := HE.out.2.2.1; omega, hS3, HE.out.1, HE.out.2.1, HE.out.2.2.2.1, HE.out.2.2.2.2⟩
          clear hS3 CE
          go_wp2
          go_roundg (gk - 1)
          case measure => omega
          case rel => obtain ⟨s', pv, ov, h1, h2⟩ := HF.out; exact ⟨s', pv, ov, hid ⟨h1, h2⟩⟩
        · have hbm : (s.met t == 0) = false := beq_eq_false_iff_ne.2 hm
          have HMT : Hid (s.met t ≠ 0) := hm
          clear hm
          by_cases hl : s.lst t = -1
          · have hbl : (s.lst t == -1) = true := beq_iff_eq.2 hl
            have HLT : Hid (s.lst t = -1) := hl
            have f3 : w2.cell? ⟨y.sb, 3, none⟩ = some (.slice (some ⟨y.bl, 0, none⟩) G G) := H2.out.cells.cell (i := 3) (by omega)
            have cln : w2.cell? ⟨y.bl, n, none⟩ = some (.int .i64 (s.low n)) := H2.out.low.cell hnG
            have zln := H2.out.low.frozen n
            have step : ∀ v : Int, v = min (s.low n) (s.met t) → Tj G L Z { s with nxt := upd s.nxt n ((j : Int) + 1), low := upd s.low n v } := fun v hv => by
              have ho := HH.out.tj.isOpen (HH.out.tj.pathSub n HN.out.1)
              have hlw := HH.out.tj.lowR n hnG ho.1 ho.2
              have hmt := HH.out.tj.metR t htG
              have h1 := HH.out.tj.lower (n := n) (v := v) HN.out.1 (by omega) (by have := HMT.out; omega) (by
                by_cases e : s.low n ≤ s.met t
                · rw [hv, Int.min_eq_left e]; exact hlw.2.2
                · rw [hv, Int.min_eq_right (by omega)]
                  exact ⟨t, htG, rfl, HLT.out, RchW.edge HEg.out⟩)
              exact h1.bump (n := n) (j := j) HN.out.1 hjL HJ.out (by show s.met (Z n j).toNat ≠ 0; rw [HZT.out]; exact HMT.out) (fun _ => by
                show upd s.low n v n ≤ s.met (Z n j).toNat
                rw [HZT.out, upd_at]; omega)
            have HST : Hid (∀ v : Int, v = min (s.low n) (s.met t) → Tj G L Z { s with nxt := upd s.nxt n ((j : Int) + 1), low := upd s.low n v }) := step
            clear hl step
            go_upto_region 10 with fail
            by_cases hmn : s.met t < s.low n
            · have HV : Hid (s.met t = min (s.low n) (s.met t)) := hid (by rw [Int.min_eq_right (by omega)])
              refine wp_region_last 21 _ (by kernel_rfl) (by kernel_rfl) rfl rfl ?_
              simp only [List.take]
              repeat (go_big_quiet_step (fail))
              refine wpQuiet_nil ?_
              intro nr
              go_wp2
              go_roundg (gk - 1)
              case measure => omega
              case rel => exact ⟨_, _, _, hid ⟨by have h1 := HTD.out; have h2 := HM.out; show todo G L { s with nxt := upd s.nxt n ((j : Int) + 1) } ≤ _; omega, (H2.out.drewN nr).setLow n (s.met t), HST.out _ HV.out, HH.out.tk, HH.out.mono, HH.out.root⟩⟩
            · have HV : Hid (s.low n = min (s.low n) (s.met t)) := hid (by rw [Int.min_eq_left (by omega)])
              refine wp_region_last 21 _ (by kernel_rfl) (by kernel_rfl) rfl rfl ?_
              simp only [List.take]
              repeat (go_big_quiet_step (fail))
              refine wpQuiet_nil ?_
              intro nr
              go_wp2
              go_roundg (gk - 1)
              case measure => omega
              case rel => exact ⟨_, _, _, hid ⟨by have h1 := HTD.out; have h2 := HM.out; show todo G L { s with nxt := upd s.nxt n ((j : Int) + 1) } ≤ _; omega, (H2.out.drewN nr).setLow n (s.low n), HST.out _ HV.out, HH.out.tk, HH.out.mono, HH.out.root⟩⟩
          · have hbl : (s.lst t == -1) = false := beq_eq_false_iff_ne.2 hl
            have HST : Hid (Tj G L Z { s with nxt := upd s.nxt n ((j : Int) + 1) }) := HH.out.tj.bump HN.out.1 hjL HJ.out (by rw [HZT.out]; exact HMT.out) (fun hh => by rw [HZT.out] at hh; exact absurd hh hl)
            clear hl
            go_wp2
            go_roundg (gk - 1)
            case measure => omega
            case rel => exact ⟨_, _, _, hid ⟨by have h1 := HTD.out; have h2 := HM.out; omega, H2.out, HST.out, HH.out.tk, HH.out.mono, HH.out.root⟩⟩

end Go.Proofs.Ythpbgfodejoecaa
