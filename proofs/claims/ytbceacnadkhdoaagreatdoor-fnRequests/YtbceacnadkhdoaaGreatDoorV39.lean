/- Bytes copied by the model. Reading of a body by the model: where there is no request, and copies of bytes. -/
import Derived.Test.YtbceacnadkhdoaaGreatDoorV7
import Derived.Test.YtbceacnadkhdoaaGreatDoorV37
import Derived.Test.YtbceacnadkhdoaaGreatDoorV12
namespace Go.Proofs.YtbceacnadkhdoaaGreatDoor
open Go.RowKit
set_option linter.unusedVariables false

set_option maxHeartbeats 400000 in
theorem sBytes_any (lo hi : Nat) (ao : Option Addr) (ca : Nat) (L : List Int) (w : World) (hR : Row .u8 w lo hi ao L) (hs : hi ≤ w.heap.size) (hl : L.length ≤ 2097152) :
    Calls Tryz.prog 50 #[.slice ao L.length ca] w fun e w' => ∃ ao' cap', e = .returned (.slice ao' L.length cap') ∧ OwnR .u8 5 w' w.heap.size ao' cap' L ∧ Below w.heap.size w w' := by
  have HR := hideP hR
  clear hR
  go_enter Tryz.func50, Tryz.ntmps50
  go_wp2_with (first | (at_builtin; refine wpList_app (k := .u8) (T := 5) (S := 22) (bytes := 1) Tryz.underlying22 Tryz.infoB (by omega) rfl _ _ rfl w.heap.size (some ⟨w.heap.size, 0, none⟩) 0 [] rfl (OwnR.lit .u8 5 w w.heap.size [] _ rfl (Nat.le_refl _) (by unfold maxLen; simp)) ao ca L rfl (HR.out.keep (B := w.heap.size) ((Below.refl _ _).alloc (Nat.le_refl _) _) hs).src (by simp; omega) (by simp) ?_; intro ao2 cap2 w2 O2 K2; refine Hid.out ?_) | go_in)
  have HO2 : Hid (OwnR .u8 5 w2 w.heap.size ao2 cap2 L) := hideP O2
  have HK2 : Hid (Below w.heap.size w w2) := hideP (Below.trans (by go_grown) K2)
  clear O2 K2
  refine hideP ?_
  go_wp2
  go_returns
  exact ⟨ao2, cap2, rfl, HO2.out, HK2.out⟩

end Go.Proofs.YtbceacnadkhdoaaGreatDoor

namespace Go.Proofs.YtbceacnadkhdoaaGreatDoor
open Go.RowKit
set_option linter.unusedVariables false
attribute [local go_sem high] sl_from sl_upto

/-- What the model's reading leaves: whether there is a request; if so, its lists. -/
def ReadS (w : World) (L : List Int) (e : Ending) (w' : World) : Prop :=
  (rdC L = 5 ∧ (∃ x ao' na ca' bo' nb cb', e = .returned (.tuple #[.agg #[.int .i64 x, .slice ao' na ca', .slice bo' nb cb'], .bool false])) ∧ Below w.heap.size w w') ∨
  (rdC L = 0 ∧ ∃ ao' ca' bo' cb' mid, e = .returned (.tuple #[.agg #[.int .i64 (rdK L), .slice ao' (rdA L).length ca', .slice bo' (rdD L).length cb'], .bool true]) ∧ Below w.heap.size w w' ∧ w.heap.size ≤ mid ∧ mid ≤ w'.heap.size ∧ Wrt .i64 w' w.heap.size mid ao' (rdA L) ∧ Wrt .u8 w' mid w'.heap.size bo' (rdD L))

set_option maxHeartbeats 1000000 in
theorem sRd_nil (ao : Option Addr) (ca : Nat) (w : World) : Calls Tryz.prog 30 #[.slice ao 0 ca] w (ReadS w []) := by
  go_enter Tryz.func30, Tryz.ntmps30
  go_wp2
  refine bodyPost_ret (v := .tuple #[.agg #[.int .i64 0, .slice none 0 0, .slice none 0 0], .bool false]) (by simp [results, Tryz.results30, go_sem, *]) rfl (.inl ⟨rfl, ⟨0, none, 0, 0, none, 0, 0, rfl⟩, by go_grown⟩)

set_option maxHeartbeats 1000000 in
theorem sRd_kind (g o ca : Nat) (k : Int) (r : List Int) (w : World) (hc : w.cell? ⟨g, o, none⟩ = some (.int .u8 k)) (hm : r.length + 1 ≤ 2097152) (k0 : 0 ≤ k) (k1' : k ≤ 255) (h : k < 1 ∨ 13 < k) :
    Calls Tryz.prog 30 #[.slice (some ⟨g, o, none⟩) (r.length + 1) ca] w (ReadS w (k :: r)) := by
  have hlt : g < w.heap.size := World.block_lt_of_cell? w _ hc
  have hg1 : ¬ g = w.heap.size := by omega
  have hg2 : ¬ g = w.heap.size + 1 := by omega
  have hn0 : ((r.length : Int) + 1 == 0) = false := by simp; omega
  have hn1 : (0 : Int) < (r.length : Int) + 1 := by omega
  have hwk : IntKind.i64.wrap k = k := IntWalk.i64_in _ (by omega)
  have HK := hideP h
  have HR := hideP (rd_no (k := k) (r := r) fun hh => by rw [aC_no h] at hh; omega).1
  clear h
  go_enter Tryz.func30, Tryz.ntmps30
  go_wp2_with (go_at_call 36; refine Calls.mono (kind_no _ _ HK.out) ?_; rintro e w1 ⟨rfl, rfl⟩)
  refine bodyPost_ret (v := .tuple #[.agg #[.int .i64 0, .slice none 0 0, .slice none 0 0], .bool false]) (by simp [results, Tryz.results30, go_sem, *]) rfl (.inl ⟨HR.out, ⟨0, none, 0, 0, none, 0, 0, rfl⟩, by go_grown⟩)

set_option maxHeartbeats 1000000 in
theorem sRd_short (g o ca : Nat) (k : Int) (r : List Int) (w : World) (hc : w.cell? ⟨g, o, none⟩ = some (.int .u8 k)) (hm : r.length + 1 ≤ 2097152) (k0 : 0 ≤ k) (k1' : k ≤ 255) (h1 : 1 ≤ k) (h2 : k ≤ 13) (h : r.length < aN k) :
    Calls Tryz.prog 30 #[.slice (some ⟨g, o, none⟩) (r.length + 1) ca] w (ReadS w (k :: r)) := by
  have hlt : g < w.heap.size := World.block_lt_of_cell? w _ hc
  have hg1 : ¬ g = w.heap.size := by omega
  have hg2 : ¬ g = w.heap.size + 1 := by omega
  have hn0 : ((r.length : Int) + 1 == 0) = false := by simp; omega
  have hn1 : (0 : Int) < (r.length : Int) + 1 := by omega
  have hwk : IntKind.i64.wrap k = k := IntWalk.i64_in _ (by omega)
  have HR := hideP (rd_no (k := k) (r := r) fun hh => by omega).1
  have hk7 := aN_le k
  obtain ⟨c, hcn⟩ : ∃ c, aN k = c := ⟨_, rfl⟩
  have CA := sArgN_any k
  rw [hcn] at h hk7 CA
  have CA' := hideP CA
  have HK := hideP (And.intro h1 h2)
  have hlt2 : (r.length : Int) + 1 < 1 + (c : Int) := by omega
  clear CA hcn h1 h2
  go_enter Tryz.func30, Tryz.ntmps30
  go_wp2_with (first | (go_at_call 36; refine Calls.mono (kind_yes _ _ HK.out.1 HK.out.2) ?_; rintro e w1 ⟨rfl, rfl⟩))
  refine Calls.mono (CA'.out _ HK.out.1 HK.out.2) ?_
  rintro e w1 ⟨rfl, k1⟩
  have K1 : Hid (Below w.heap.size w w1) := hideP (Below.trans (by go_grown) (k1.mono (by simp; omega)))
  obtain ⟨r0, r1, r2, r3, r4, r5, r6⟩ : R3 w1 w.heap.size (.int .i64 0) (.slice none 0 0) (.slice none 0 0) := R3.keep ⟨by simp, by simp, by simp, by simp, by simp, by simp, by simp; omega⟩ k1 (by simp; omega)
  obtain ⟨s0, s1, s2, s3, s4, s5, s6⟩ : R3 w1 (w.heap.size + 1) (.int .i64 k) (.slice none 0 0) (.slice none 0 0) := R3.keep ⟨by simp, by simp, by simp, by simp, by simp, by simp, by simp⟩ k1 (by simp)
  clear k1
  go_wp2
  refine bodyPost_ret (v := .tuple #[.agg #[.int .i64 k, .slice none 0 0, .slice none 0 0], .bool false]) (by simp [results, Tryz.results30, go_sem, *]) rfl (.inl ⟨HR.out, ⟨k, none, 0, 0, none, 0, 0, rfl⟩, ?_⟩)
  repeat' (first | exact K1.out | (with_reducible refine Below.setCell ?_ ?_ _) | go_size)

end Go.Proofs.YtbceacnadkhdoaaGreatDoor
