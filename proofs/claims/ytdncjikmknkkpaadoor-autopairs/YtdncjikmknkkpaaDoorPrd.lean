/- paired: states with a number, handed over one by one. -/
import Derived.Test.YtdncjikmknkkpaaDoorPky
import Derived.Test.YtdncjikmknkkpaaDoorBwd
namespace Go.Proofs.YtdncjikmknkkpaaDoor
open Go.RowKit Go.Shelf

attribute [local go_sem] Oper.semAt_some

/-- Pairs that are handed over. -/
abbrev Pr := Fin 4096 × Fin 4096
def prn (x : Pr) : Nat × Nat := (x.1.1, x.2.1)
theorem prn_sml (x : Pr) : Sml (prn x) := ⟨x.1.2, x.2.2⟩
abbrev encP (x : Pr) : Array Value := #[.agg #[.int .i64 ((x.1.1 : Nat) : Int), .int .i64 ((x.2.1 : Nat) : Int)]]
/-- Some blocks stay. -/
def Kbp (bs : Nat → Prop) (W W' : World) : Prop := ∀ b, bs b → W'.heap[b]? = W.heap[b]?

/-- An iterator over pairs. -/
def Itr (n gf : Nat) (lb : Array Value) (all : List Pr) (bs : Nat → Prop) (w : World) : Prop :=
  SeqStopsK Fence.wide n Tryd.prog gf lb encP (Kbp bs) (fun xs => xs = all) (fun pre => pre <+: all) all.length w

theorem take_snoc {α : Type} {l : List α} {k : Nat} {x : α} (h : l[k]? = some x) : l.take (k + 1) = l.take k ++ [x] := by
  rw [List.take_add_one, h]; rfl

set_option maxRecDepth 100000 in
set_option maxHeartbeats 2000000 in
theorem prd_stops (n Bs Bk mb mo : Nat) (sa : Option Addr) (k sc kw : Nat) (Z : Nat → Nat) (all : List Pr) (bs : Nat → Prop) (w : World) (hk : k ≤ 2048) (hsa : 0 < k → sa = some ⟨mb, mo, none⟩) (hlen : all.length = k) (hall : ∀ i, i < k → ∃ x : Pr, all[i]? = some x ∧ x.1.1 = Z i ∧ x.2.1 = kw)
    (h1 : bs Bs) (h2 : bs Bk) (h3 : 0 < k → bs mb) (hBs : w.cell? ⟨Bs, 0, none⟩ = some (.slice sa k sc)) (hBk : w.cell? ⟨Bk, 0, none⟩ = some (.int .i64 kw)) (hc : ∀ i, i < k → w.cell? ⟨mb, mo + i, none⟩ = some (.int .i64 (Z i : Nat))) :
    Itr n 84 #[.pointer (some ⟨Bs, 0, none⟩), .pointer (some ⟨Bk, 0, none⟩)] all bs w := fun l J Jx W hW _ _ hY h0 => by
  refine callsIn_of_wp Tryd.func84 rfl trivial ?_ rfl
  simp only [Tryd.ntmps84, List.size_toArray, List.length_cons, List.length_nil, Nat.reduceAdd, Nat.reduceSub, Array.replicate_succ, Array.replicate_zero, List.push_toArray, List.append_toArray, List.nil_append, List.cons_append]
  have hBs' : W.cell? ⟨Bs, 0, none⟩ = some (.slice sa k sc) := below_cell hW (Nat.le_refl _) hBs
  have hBk' : W.cell? ⟨Bk, 0, none⟩ = some (.int .i64 kw) := below_cell hW (Nat.le_refl _) hBk
  have HC : Hid (∀ i, i < k → W.cell? ⟨mb, mo + i, none⟩ = some (.int .i64 (Z i : Nat))) := hid (fun i hi => below_cell hW (Nat.le_refl _) (hc i hi))
  have HY := hid hY
  have HB := hid (And.intro h1 (And.intro h2 h3))
  have HA := hid hall
  have HL := hid hlen
  clear hc hBs hBk hW hY h1 h2 h3 hall hlen
  gi_wp2
  gi_loopw [8] (fun i wr => ∃ x : Nat, x ≤ k ∧ i = .int .i64 x ∧ Hid (J (all.take x) wr ∧ Kbp bs W wr)) (fun i _ => k - (intOf i).toNat)
  case atStart => exact ⟨0, by omega, rfl, hid ⟨by simpa using h0, fun _ _ => rfl⟩⟩
  case round =>
    obtain ⟨x, hx, rfl, H⟩ := hrel
    by_cases hlt : x < k
    · obtain rfl := hsa (by omega)
      obtain ⟨p, hp, hp1, hp2⟩ := HA.out x hlt
      obtain ⟨fn, tmps, assign, body, hy, hR⟩ := HY.out _ p wr H.out.1 (by rw [List.length_take, HL.out]; omega)
      have hb2 : wr.cell? ⟨Bk, 0, none⟩ = some (.int .i64 kw) := (World.cell?_of_block (w := W) (H.out.2 _ HB.out.2.1)).trans hBk'
      have hc1 := (World.cell?_of_block (w := W) (a := ⟨mb, mo + x, none⟩) (H.out.2 _ (HB.out.2.2 (by omega)))).trans (HC.out x hlt)
      have HR := hid hR
      simp only [encP, hp1, hp2] at hy
      have HP := hid hp
      clear hR hBs' hBk' hp hp1 hp2
      gi_wp2
      refine ⟨fun h => by simp [Fence.wide] at h, ?_⟩
      refine HR.out.mono ?_
      rintro e W3 (⟨rfl, hJ3, hk3⟩ | ⟨rfl, hJx3⟩)
      · have HJ := hid (And.intro hJ3 hk3)
        clear hJ3 hk3
        gi_wp2
        go_roundw
        case rel => exact ⟨x + 1, by omega, by go_num, hid ⟨by rw [take_snoc HP.out]; exact HJ.out.1, fun b hb => (HJ.out.2 b hb).trans (H.out.2 b hb)⟩⟩
        case measure => simp [intOf]; omega
      · gi_wp2
        refine bodyPost_ret (results_none rfl _ _ _) rfl ?_
        refine ⟨⟨_, rfl⟩, .inr ⟨_, ?_, hJx3⟩⟩
        rw [← take_snoc HP.out]
        exact List.take_prefix _ _
    · obtain rfl : x = k := by omega
      gi_wp2
      go_end0
      refine ⟨⟨_, rfl⟩, .inl ⟨_, rfl, ?_⟩⟩
      have := H.out.1
      rwa [List.take_of_length_le (by rw [HL.out]; omega)] at this

theorem paired57 (sa : Option Addr) (k sc : Nat) (kw : Nat) (w : World) : Calls Tryd.prog 57 #[.slice sa k sc, .int .i64 kw] w fun e w' => e = .returned (.func (.func 84) #[] #[.pointer (some ⟨w.heap.size, 0, none⟩), .pointer (some ⟨w.heap.size + 1, 0, none⟩)]) ∧ w' = (w.alloc (.cells #[.slice sa k sc] 22)).alloc (.cells #[.int .i64 kw] 3) := by
  have hmf : ∀ (fn : Fn) (first cap : Array Value) (w : World), (Instr.makeFunc fn first cap).run Tryd.prog w = .ok (.func fn first cap) w := fun _ _ _ _ => rfl
  go_enter Tryd.func57, Tryd.ntmps57
  go_wp2
  go_ret
  exact ⟨rfl, rfl⟩

end Go.Proofs.YtdncjikmknkkpaaDoor
