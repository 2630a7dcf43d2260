/- read. -/
import Derived.Test.YtnpdkpbhkjnbhaaDoorRead
namespace Go.Proofs.YtnpdkpbhkjnbhaaDoor
open Go.RowKit

theorem cutCall (r : List UInt8) (w : World) (hg : Gl w) (hl : r.length ≤ 4096) :
    Calls Tryd.prog 36 #[.string (byt r), .string ⟨#[10]⟩] w fun e w' => (brk 10 r = none ∧ e = .returned (.tuple #[.string (byt r), .string ⟨#[]⟩, .bool false]) ∨ ∃ l r', brk 10 r = some (l, r') ∧ e = .returned (.tuple #[.string (byt l), .string (byt r'), .bool true])) ∧ ∃ n, w' = w.drewN n := by
  obtain ⟨m, hm⟩ := hg.max
  refine (Tryd.strings_Cut (byt r) ⟨#[10]⟩ m w (by show r.toArray.size < _; simp; omega) hm).mono ?_
  rintro e w' ⟨he, hw'⟩
  refine ⟨?_, hw'⟩
  have h := cut_brk 10 r
  rw [data_byt, show (⟨#[10]⟩ : ByteArray).data.toList = [10] from rfl, h] at he
  cases hb : brk 10 r with
  | none => rw [hb] at he; exact Or.inl ⟨rfl, he⟩
  | some p => rw [hb] at he; exact Or.inr ⟨p.1, p.2, rfl, he⟩

/-- What read answers. -/
def RdOut (w : World) (B d : Nat) (s : List UInt8) (e : Ending) (w' : World) : Prop :=
  Below B w w' ∧ ∃ k r x, st s k = some (r, x) ∧ ((r = [] ∧ e = .returned (.int .i64 0) ∧ ∃ vn vf, Df w' B d x vn vf) ∨ (r ≠ [] ∧ st s (k + 1) = none ∧ e = .returned (.int .i64 ((k + 1 : Nat) : Int))))

theorem st_len {s : List UInt8} : ∀ {k r x}, st s k = some (r, x) → k + r.length ≤ s.length
  | 0, r, x, h => by cases h; omega
  | k + 1, r, x, h => by
    rw [st] at h
    obtain ⟨⟨r0, d0⟩, h1, h2⟩ := Option.bind_eq_some_iff.1 h
    have ih := st_len h1
    unfold rd1 at h2
    split at h2
    · rename_i p hp
      obtain ⟨d', h3, h4⟩ := Option.map_eq_some_iff.1 h2
      cases h4
      have e := (brk_some (x := p.1) (y := p.2) hp).1
      simp only at e ih
      rw [e] at ih
      simp at ih
      omega
    · cases h2

theorem st_small {s : List UInt8} {k : Nat} {r : List UInt8} {x : Dft} (h : st s k = some (r, x)) (hs : s.length ≤ 4096) : x.1.length ≤ 4096 ∧ x.2.length ≤ 4096 ∧ r.length ≤ 4096 := by
  have h1 := (st_text h).2.2
  have h2 := st_len h
  omega

set_option maxRecDepth 20000 in
set_option maxHeartbeats 4000000 in
theorem read_any {w : World} {B d : Nat} {vn vf : Value} (s : List UInt8) (h : Df w B d ([], []) vn vf) (hBw : B ≤ w.heap.size) (hB2 : 2 ≤ B) (hg : Gl w) (hl : s.length ≤ 4096) :
    Calls Tryd.prog 22 #[.pointer (some ⟨d, 0, none⟩), .string (byt s)] w fun e w' => RdOut w B d s e w' := by
  have H : Hid (Df w B d ([], []) vn vf) := h
  have HG : Hid (Gl w) := hg
  clear h hg
  obtain ⟨bs, hbs⟩ : ∃ b, b = byt s := ⟨_, rfl⟩
  rw [← hbs]
  have HBs : Hid (bs = byt s) := hbs
  clear hbs
  go_enter Tryd.func22, Tryd.ntmps22
  go_wp2
  go_loopw [1, 5] (fun vs vl wr => ∃ (k : Nat) (b : ByteArray), vs = .string b ∧ vl = .int .i64 (k + 1) ∧ k ≤ s.length ∧ Hid (∃ r x vn vf, b = byt r ∧ st s k = some (r, x) ∧ Df wr B d x vn vf ∧ Below B w wr)) (fun _ vl _ => s.length + 2 - (intOf vl).toNat)
  case atStart => exact ⟨0, bs, rfl, rfl, Nat.zero_le _, hid ⟨s, ([], []), vn, vf, HBs.out, rfl, H.out, Below.refl _ _⟩⟩
  case round =>
    obtain ⟨k, b, rfl, rfl, hk, HS⟩ := hrel
    obtain ⟨r, x, vn', vf', hb, hst, hdf, hbw⟩ := HS.out
    have HD : Hid (Df wr B d x vn' vf') := hdf
    have HBw : Hid (Below B w wr) := hbw
    have HST : Hid (st s k = some (r, x)) := hst
    have HGr : Hid (Gl wr) := HG.out.below hbw hB2
    have hsz : B ≤ wr.heap.size := Nat.le_trans hBw hbw.size
    clear HS hst hdf hbw
    by_cases hr : r = []
    · subst hr
      have hb0 : b = ⟨#[]⟩ := hb
      subst hb0
      clear hb
      go_wp2
      go_ret
      exact ⟨HBw.out, k, [], x, HST.out, Or.inl ⟨rfl, rfl, _, _, HD.out⟩⟩
    · have HR : Hid (r ≠ []) := hr
      have hne : (b.toList == []) = false := by
        rw [hb, ByteArray.toList_eq]
        cases r with
        | nil => exact absurd rfl hr
        | cons c r => simp [byt]
      have hlen := st_len HST.out
      have hsm := st_small HST.out hl
      have hrl : 0 < r.length := List.length_pos_iff.2 hr
      have CC : Hid (Calls Tryd.prog 36 #[.string b, .string ⟨#[10]⟩] wr fun e w' => (brk 10 r = none ∧ e = .returned (.tuple #[.string (byt r), .string ⟨#[]⟩, .bool false]) ∨ ∃ l r', brk 10 r = some (l, r') ∧ e = .returned (.tuple #[.string (byt l), .string (byt r'), .bool true])) ∧ ∃ n, w' = wr.drewN n) := by rw [hb]; exact cutCall r wr HGr.out hsm.2.2
      clear hr hb
      go_wp2_with fail
      refine CC.out.mono ?_
      rintro e w1 ⟨hcut, n, rfl⟩
      rcases hcut with ⟨hbr, rfl⟩ | ⟨l, r', hbr, rfl⟩
      · have HN : Hid (st s (k + 1) = none) := by
          show _ = _
          rw [st, HST.out]
          show rd1 (r, x) = none
          unfold rd1
          simp only [hbr]
        clear hbr CC hne
        go_wp2
        go_ret
        exact ⟨below_drewn HBw.out n, k, r, x, HST.out, Or.inr ⟨HR.out, HN.out, by simp⟩⟩
      · have HN : Hid (st s (k + 1) = (rdL x l).map fun d => (r', d)) := by
          show _ = _
          rw [st, HST.out]
          show rd1 (r, x) = _
          unfold rd1
          simp only [hbr]
        have hll : l.length ≤ 4096 := by
          have e := (brk_some hbr).1
          have : l.length ≤ r.length := by rw [e]; simp
          omega
        have hbn : Below wr.heap.size wr (wr.drewN n) := below_drewn (Below.refl _ _) n
        obtain ⟨y, hy⟩ : ∃ y, y = rdL x l := ⟨_, rfl⟩
        have CL : Hid (Calls Tryd.prog 37 #[.pointer (some ⟨d, 0, none⟩), .string (byt l)] (wr.drewN n) fun e w' => DfOut (wr.drewN n) B d y e w') := readLine_any l (HD.out.later hbn) hsz hB2 (HGr.out.below (hbn.mono hsz) hB2) hll hsm.1 hsm.2.1 y hy
        rw [← hy] at HN
        clear hbr CC hne hy hll hbn
        generalize byt l = bl at *
        obtain ⟨b', hb'⟩ : ∃ b', b' = byt r' := ⟨_, rfl⟩
        rw [← hb']
        have HB' : Hid (b' = byt r') := hb'
        clear hb'
        go_wp2_with fail
        refine CL.out.mono ?_
        rintro e w2 ⟨hb2, hd2⟩
        have HB2 : Hid (Below B w w2) := (below_drewn HBw.out n).trans hb2
        rcases hd2 with ⟨rfl, rfl⟩ | ⟨x', rfl, rfl, vn2, vf2, hdf2⟩
        · clear hb2 CL
          go_wp2
          go_ret
          exact ⟨HB2.out, k, r, x, HST.out, Or.inr ⟨HR.out, HN.out, by simp⟩⟩
        · have HD2 : Hid (Df w2 B d x' vn2 vf2) := hdf2
          clear hb2 CL hdf2
          go_wp2
          go_roundw
          case rel => exact ⟨k + 1, b', rfl, by go_num, by omega, hid ⟨r', x', vn2, vf2, HB'.out, HN.out, HD2.out, HB2.out⟩⟩
          case measure => simp [intOf]; omega

end Go.Proofs.YtnpdkpbhkjnbhaaDoor
