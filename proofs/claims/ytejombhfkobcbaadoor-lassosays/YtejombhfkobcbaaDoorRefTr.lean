/- The document's True, of every formula. -/
import Derived.Test.YtejombhfkobcbaaDoorTrK1
import Derived.Test.YtejombhfkobcbaaDoorTrK2
import Derived.Test.YtejombhfkobcbaaDoorTrK3
import Derived.Test.YtejombhfkobcbaaDoorTrK4
import Derived.Test.YtejombhfkobcbaaDoorTrK5
import Derived.Test.YtejombhfkobcbaaDoorTrK6
import Derived.Test.YtejombhfkobcbaaDoorTrK7
import Derived.Test.YtejombhfkobcbaaDoorTrK8
import Derived.Test.YtejombhfkobcbaaDoorTrK9
import Derived.Test.YtejombhfkobcbaaDoorTrK10
import Derived.Test.YtejombhfkobcbaaDoorTrK11
namespace Go.Proofs.YtejombhfkobcbaaDoor
open Go.RowKit

theorem true_aux (sa : Option Addr) (s sc : Nat) (la : Option Addr) (m n lc : Nat) (S L : Nat → Int) (R : Fml → Nat → Bool) (HN : Hid (n = s + m)) (HR : Hid (R = hb n (atm s m S L))) (hn60 : n ≤ 60) (hm : 0 < m) :
    ∀ (t : Fml) (a : Option Addr) (cap : Nat) (w : World), Kds w t a → Wf t → Wd w sa s la m S L →
    Calls Tryd.prog 15 #[.agg #[.int .i64 t.kind, .int .i64 t.num, .slice a t.cnt cap], .agg #[.slice sa s sc, .slice la m lc]] w fun e w' => NewB w n (R t) e w' := by
  intro t
  induction t using Fml.ind with
  | h t ih =>
  intro a cap w hK hW hZ
  obtain ⟨h1, h2, _⟩ := fit_kind hW.out.1
  have hk : t.kind = 1 ∨ t.kind = 2 ∨ t.kind = 3 ∨ t.kind = 4 ∨ t.kind = 5 ∨ t.kind = 6 ∨ t.kind = 7 ∨ t.kind = 8 ∨ t.kind = 9 ∨ t.kind = 10 ∨ t.kind = 11 := by omega
  rcases hk with hk | hk | hk | hk | hk | hk | hk | hk | hk | hk | hk
  · exact true_k1 sa s sc la m n lc S L R HN HR hn60 hm t hk ih a cap w hK hW hZ
  · exact true_k2 sa s sc la m n lc S L R HN HR hn60 hm t hk ih a cap w hK hW hZ
  · exact true_k3 sa s sc la m n lc S L R HN HR hn60 hm t hk ih a cap w hK hW hZ
  · exact true_k4 sa s sc la m n lc S L R HN HR hn60 hm t hk ih a cap w hK hW hZ
  · exact true_k5 sa s sc la m n lc S L R HN HR hn60 hm t hk ih a cap w hK hW hZ
  · exact true_k6 sa s sc la m n lc S L R HN HR hn60 hm t hk ih a cap w hK hW hZ
  · exact true_k7 sa s sc la m n lc S L R HN HR hn60 hm t hk ih a cap w hK hW hZ
  · exact true_k8 sa s sc la m n lc S L R HN HR hn60 hm t hk ih a cap w hK hW hZ
  · exact true_k9 sa s sc la m n lc S L R HN HR hn60 hm t hk ih a cap w hK hW hZ
  · exact true_k10 sa s sc la m n lc S L R HN HR hn60 hm t hk ih a cap w hK hW hZ
  · exact true_k11 sa s sc la m n lc S L R HN HR hn60 hm t hk ih a cap w hK hW hZ

theorem true_any {sa : Option Addr} {s sc : Nat} {la : Option Addr} {m lc : Nat} {S L : Nat → Int} (h60 : s + m ≤ 60) (hm : 0 < m) (t : Fml) (a : Option Addr) (cap : Nat) (w : World) (hK : Kds w t a) (hW : Wf t) (hZ : Wd w sa s la m S L) :
    Calls Tryd.prog 15 #[.agg #[.int .i64 t.kind, .int .i64 t.num, .slice a t.cnt cap], .agg #[.slice sa s sc, .slice la m lc]] w fun e w' => NewB w (s + m) (hb (s + m) (atm s m S L) t) e w' :=
  true_aux sa s sc la m (s + m) lc S L _ (hid rfl) (hid rfl) h60 hm t a cap w hK hW hZ

end Go.Proofs.YtejombhfkobcbaaDoor
