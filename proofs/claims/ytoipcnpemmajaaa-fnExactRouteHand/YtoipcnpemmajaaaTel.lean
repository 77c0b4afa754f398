/- Numbers told as bytes by the program, where all of them are bytes. -/
import Derived.Test.YtoipcnpemmajaaaApp
import Derived.Test.YtoipcnpemmajaaaWi5
import Derived.Test.YtoipcnpemmajaaaRowB
namespace Go.Proofs.Ytoipcnpemmajaaa
open Go.RowKit
set_option linter.unusedVariables false

set_option maxHeartbeats 2000000 in
theorem tellW_any (lo hi base : Nat) (ao bo : Option Addr) (cap cb : Nat) (M L : List Int) (w : World) (hO : OwnR .u8 5 w base ao cap M) (hR : Row .i64 w lo hi bo L) (hb : base ≤ w.heap.size) (hh : hi ≤ base) (hl : M.length + L.length ≤ 1048576) (hB : L.all byB = true) :
    Calls Try.prog 107 #[.slice ao M.length cap, .slice bo L.length cb] w fun e w' => ∃ ao' cap', e = .returned (.slice ao' (M ++ L).length cap') ∧ OwnR .u8 5 w' base ao' cap' (M ++ L) ∧ Below base w w' := by
  have HO := hideP hO
  have HR := hideP hR
  have HB := hideP hB
  have hl' : (L.length : Int) ≤ 1048576 := by omega
  have hll : L.length ≤ 1048576 := by omega
  clear hO hR hB
  go_enter Try.func107, Try.ntmps107
  go_wp2
  go_loopw [0, 9] (fun t i wr => ∃ (j : Nat) (ao' : Option Addr) (cap' : Nat), j ≤ L.length ∧ i = .int .i64 j ∧ t = .slice ao' (M ++ L.take j).length cap' ∧ OwnR .u8 5 wr base ao' cap' (M ++ L.take j) ∧ Below base w wr) (fun _ i _ => L.length - (intOf i).toNat)
  case atStart => exact ⟨0, ao, cap, Nat.zero_le _, rfl, by simp, by simpa using HO.out, Below.refl _ _⟩
  case round =>
    obtain ⟨j, ao1, cap1, hj, rfl, rfl, O1, K1⟩ := hrel
    have HO1 := hideP O1
    have HK1 := hideP K1
    have hz := K1.size
    clear O1 K1
    by_cases hlt : j < L.length
    · have hlt' : (j : Int) < (L.length : Int) := by omega
      have hne : L ≠ [] := fun e => by rw [e] at hlt; simp at hlt
      rcases HR.out with e | ⟨g, o, rfl, _, hg, hc⟩
      · exact absurd e hne
      have a0 := (HK1.out.cell (p := ⟨g, o + j, none⟩) (by show g < base; omega)).trans (hc j hlt)
      have hx : 0 ≤ L[j] ∧ L[j] ≤ 255 := byB_yes (List.all_eq_true.1 HB.out L[j] (List.getElem_mem hlt))
      have HT : Hid (M ++ L.take (j + 1) = (M ++ L.take j) ++ [L[j]]) := hideP (by rw [List.take_succ_eq_append_getElem hlt, List.append_assoc])
      have HL1 := hideP (show (M ++ L.take j).length ≤ 1048576 by simp; omega)
      clear hc hne
      generalize L[j] = x at *
      obtain ⟨x0, x1⟩ := hx
      have hm : x % 256 = x := by omega
      generalize M ++ L.take j = M1 at *
      go_wp2_with (first | (at_builtin; refine wpList_app (k := .u8) (T := 5) (S := 22) (bytes := 1) Try.underlying22 Try.infoB (by omega) rfl _ _ rfl base ao1 cap1 M1 rfl (HO1.out.alloc _) _ 1 [x] rfl (src_one .u8 wr x 5) (by have := HL1.out; simp; omega) (by simp; omega) ?_; intro ao2 cap2 w2 O2 K2; refine Hid.out ?_) | go_in)
      have HO2 := hideP O2
      have HK2 : Hid (Below base w w2) := hideP ((HK1.out.alloc (by omega) _).trans K2)
      clear O2 K2
      refine hideP ?_
      go_wp2
      go_roundw
      case rel => exact ⟨j + 1, ao2, cap2, by omega, by go_num, by rw [HT.out]; simp, by rw [HT.out]; exact HO2.out, HK2.out⟩
      case measure => simp [intOf]; omega
    · obtain rfl : j = L.length := by omega
      rw [List.take_length] at HO1
      go_wp2
      go_returns
      exact ⟨ao1, cap1, by rw [List.take_length]; rfl, HO1.out, HK1.out⟩

theorem tellW_nil (lo hi : Nat) (bo : Option Addr) (cb : Nat) (L : List Int) (w : World) (hR : Row .i64 w lo hi bo L) (hh : hi ≤ w.heap.size) (hl : L.length ≤ 1048576) (hB : L.all byB = true) :
    Calls Try.prog 107 #[.slice none 0 0, .slice bo L.length cb] w fun e w' => ∃ ao' cap', e = .returned (.slice ao' L.length cap') ∧ OwnR .u8 5 w' w.heap.size ao' cap' L ∧ Below w.heap.size w w' :=
  tellW_any lo hi w.heap.size none bo 0 cb [] L w (OwnR.nil _ _ _ _) hR (Nat.le_refl _) hh (by simpa using hl) hB

end Go.Proofs.Ytoipcnpemmajaaa
