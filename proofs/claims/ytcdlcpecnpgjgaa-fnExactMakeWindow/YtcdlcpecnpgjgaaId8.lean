/- Ids of a slot, in order: the program's, the model's; OwnOf. -/
import Derived.Test.YtcdlcpecnpgjgaaId4
namespace Go.Proofs.Ytcdlcpecnpgjgaa
open Go.RowKit Go.Maps
set_option linter.unusedVariables false
attribute [local go_sem high] fI0 fI1

theorem offL_yes {L : List Int} {s : Int} {k : Nat} (h : k < L.length) (h2 : (slV L[k] == s) = false) : offL (L.take (k + 1)) s = offL (L.take k) s ++ [L[k]] := by
  unfold offL; rw [take_snoc h, List.filter_append]; simp [h2]

theorem offL_no {L : List Int} {s : Int} {k : Nat} (h : k < L.length) (h2 : (slV L[k] == s) = true) : offL (L.take (k + 1)) s = offL (L.take k) s := by
  unfold offL; rw [take_snoc h, List.filter_append]; simp [h2]

theorem slV_at {L : List Int} (h : ∀ x ∈ L, okId x = true) {k : Nat} (hk : k < L.length) : 0 ≤ L[k] ∧ L[k] ≤ 255 ∧ L[k] / 64 = slV L[k] := by
  have h1 := h L[k] (List.getElem_mem hk)
  have h2 := okId_iff.1 h1
  exact ⟨h2.1, h2.2.1, (slV_yes h1).symm⟩

set_option maxHeartbeats 2000000 in
theorem iOwnIds_any (lo hi : Nat) (ao : Option Addr) (ca : Nat) (L : List Int) (s : Int) (w : World) (ha : Row .i64 w lo hi ao L) (hs : hi ≤ w.heap.size) (hl : L.length ≤ 1048576) :
    Calls Try.prog 68 #[.slice ao L.length ca, .int .i64 s] w fun e w' => ∃ ao' cap', e = .returned (.slice ao' (ownL L s).length cap') ∧ OwnR .i64 2 w' w.heap.size ao' cap' (ownL L s) ∧ Below w.heap.size w w' := by
  have hl' : (L.length : Int) ≤ 1048576 := by omega
  have HA := hideP ha
  clear ha
  go_enter Try.func68, Try.ntmps68
  go_wp2
  go_loopw [5, 10] (fun v i wr => ∃ k : Nat, k ≤ L.length ∧ i = .int .i64 k ∧ Below w.heap.size w wr ∧ ∃ ao' cap', v = .slice ao' (ownL (L.take k) s).length cap' ∧ OwnR .i64 2 wr w.heap.size ao' cap' (ownL (L.take k) s)) (fun _ i _ => L.length - (intOf i).toNat)
  case atStart => exact ⟨0, Nat.zero_le _, rfl, Below.refl _ _, none, 0, by simp [ownL], by simpa [ownL] using OwnR.nil _ _ _ _⟩
  case round =>
    obtain ⟨k, hk, rfl, hbel, ao', cap', rfl, hown⟩ := hrel
    have hbs := hbel.size
    have HO := hideP hown
    have HBel := hideP hbel
    by_cases hlt : k < L.length
    · have hlt' : (k : Int) < (L.length : Int) := by omega
      have hne : L ≠ [] := fun e => by rw [e] at hlt; simp at hlt
      rcases HA.out with e | ⟨g, o, rfl, hlo, hg, hc⟩
      · exact absurd e hne
      have a0 := (hbel.cell (p := ⟨g, o + k, none⟩) (by show g < _; omega)).trans (hc k hlt)
      have N1 := hideP (ownL_yes (s := s) hlt)
      have N2 := hideP (ownL_no (s := s) hlt)
      have hgl : g < wr.heap.size := by omega
      have hlen : (ownL (L.take k) s).length ≤ 1048576 := Nat.le_trans (ownL_len _ _) (by simp; omega)
      clear hc HA hbel hne hown
      obtain ⟨x, hx⟩ : ∃ x, L[k] = x := ⟨_, rfl⟩
      rw [hx] at a0 N1 N2
      clear hx
      generalize ownL (L.take k) s = O at *
      cases hsx : (slV x == s)
      · go_wp2_with (go_at_call 36; refine Calls.mono (iSlot_any _ _) ?_; rintro e w1 ⟨rfl, k1⟩; have K1 := hideP k1; have hz1 := k1.size; clear k1)
        go_roundw
        case rel => exact ⟨k + 1, by omega, by go_num, HBel.out.trans (K1.out.mono hbs), ao', cap', by rw [N2.out hsx], by rw [N2.out hsx]; exact HO.out.keep K1.out⟩
        case measure => simp [intOf]; omega
      · go_wp2_with (first | (go_at_call 36; refine Calls.mono (iSlot_any _ _) ?_; rintro e w1 ⟨rfl, k1⟩; have K1 := hideP k1; have hz1 := k1.size; clear k1) | (at_builtin; refine wpList_app (k := .i64) (T := 2) (S := 51) (bytes := 8) Try.underlying51 Try.infoI5 (by omega) rfl _ _ rfl w.heap.size ao' cap' O rfl ((HO.out.keep K1.out).alloc _) _ 1 [x] rfl (src_one .i64 w1 x 2) (by simp; omega) (by simp; omega) ?_; intro ao8 ca8 w8 O8 K8) | go_in)
        go_roundw
        case rel =>
          refine ⟨k + 1, by omega, by go_num, ?_, ao8, ca8, by rw [N1.out hsx]; simp, by rw [N1.out hsx]; exact O8⟩
          exact (HBel.out.trans (K1.out.mono hbs)).trans (Below.trans (by go_grown : Below w.heap.size w1 _) K8)
        case measure => simp [intOf]; omega
    · obtain rfl : k = L.length := by omega
      rw [List.take_length] at HO
      clear hbel hown
      rw [List.take_length]
      go_wp2
      go_returns
      exact ⟨ao', cap', rfl, HO.out, HBel.out⟩

end Go.Proofs.Ytcdlcpecnpgjgaa
