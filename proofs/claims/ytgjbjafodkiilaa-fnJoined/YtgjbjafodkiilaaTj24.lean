/- Bytes copied by the model. -/
import Derived.Test.YtgjbjafodkiilaaTj15
namespace Go.Proofs.Ytgjbjafodkiilaa
open Go.RowKit
set_option linter.unusedVariables false

set_option maxHeartbeats 400000 in
theorem sBytes_any (lo hi : Nat) (ao : Option Addr) (ca : Nat) (L : List Int) (w : World) (hR : Row .u8 w lo hi ao L) (hs : hi ≤ w.heap.size) (hl : L.length ≤ 2097152) :
    Calls Try.prog 50 #[.slice ao L.length ca] w fun e w' => ∃ ao' cap', e = .returned (.slice ao' L.length cap') ∧ OwnR .u8 5 w' w.heap.size ao' cap' L ∧ Below w.heap.size w w' := by
  have HR := hideP hR
  clear hR
  go_enter Try.func50, Try.ntmps50
  go_wp2_with (first | (at_builtin; refine wpList_app (k := .u8) (T := 5) (S := 22) (bytes := 1) Try.underlying22 Try.infoB (by omega) rfl _ _ rfl w.heap.size (some ⟨w.heap.size, 0, none⟩) 0 [] rfl (OwnR.lit .u8 5 w w.heap.size [] _ rfl (Nat.le_refl _) (by unfold maxLen; simp)) ao ca L rfl (HR.out.keep (B := w.heap.size) ((Below.refl _ _).alloc (Nat.le_refl _) _) hs).src (by simp; omega) (by simp) ?_; intro ao2 cap2 w2 O2 K2; refine Hid.out ?_) | go_in)
  have HO2 : Hid (OwnR .u8 5 w2 w.heap.size ao2 cap2 L) := hideP O2
  have HK2 : Hid (Below w.heap.size w w2) := hideP (Below.trans (by go_grown) K2)
  clear O2 K2
  refine hideP ?_
  go_wp2
  go_returns
  exact ⟨ao2, cap2, rfl, HO2.out, HK2.out⟩

end Go.Proofs.Ytgjbjafodkiilaa
