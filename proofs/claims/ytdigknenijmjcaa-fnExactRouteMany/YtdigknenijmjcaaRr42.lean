/- What a hand does, by the model, where nothing is clicked and no key reaches anybody. -/
import Derived.Test.YtdigknenijmjcaaRr34
import Derived.Test.YtdigknenijmjcaaRr38
import Derived.Test.YtdigknenijmjcaaRr37
import Derived.Test.YtdigknenijmjcaaRr36
namespace Go.Proofs.Ytdigknenijmjcaa
open Go.RowKit Go.Maps
set_option linter.unusedVariables false

theorem RtA.noS {r : Rt} {W w' : World} (h : r.D = []) (hb : Below W.heap.size W w') : RtA r W (.returned (.agg #[.int .i64 r.z, .int .i64 r.tg, .int .i64 r.kd, .slice none 0 0, .bool r.tr, .int .i64 r.fo])) w' :=
  ⟨none, 0, by rw [h]; rfl, by rw [h]; exact OwnR.nil _ _ _ _, hb⟩

set_option maxRecDepth 100000 in
set_option maxHeartbeats 800000 in
theorem sRoute_3 (g : Nat) (t : Bool) (f a b : Int) (so : Option Addr) (n sc : Nat) (w : World) (hh : H3 w g 3 a b) :
    Calls Try.prog 34 #[.agg #[.bool t, .int .i64 f], .slice so n sc, .pointer (some ⟨g, 0, none⟩)] w (RtA ⟨0, 0, 0, [], true, f⟩ w) := by
  have hg := hh.lt
  have hg2 : g < w.heap.size ∧ g < w.heap.size + 1 ∧ g < w.heap.size + 1 + 1 ∧ g < w.heap.size + 1 + 1 + 1 ∧ ¬ g = w.heap.size ∧ ¬ g = w.heap.size + 1 ∧ ¬ g = w.heap.size + 1 + 1 ∧ ¬ g = w.heap.size + 1 + 1 + 1 := by omega
  obtain ⟨c0, c1, c2⟩ := hh
  go_enter Try.func34, Try.ntmps34
  go_wp2
  go_returns
  exact RtA.noS (r := ⟨0, 0, 0, [], true, f⟩) rfl (by repeat' (first | (with_reducible exact Below.refl _ _) | (with_reducible refine kept_below ?_ (by assumption) ?_) | (with_reducible refine Below.alloc ?_ ?_ _) | (with_reducible refine Below.drew ?_) | (with_reducible refine Below.setCell ?_ ?_ _) | go_size))

set_option maxRecDepth 100000 in
set_option maxHeartbeats 800000 in
theorem sRoute_4 (g : Nat) (t : Bool) (f a b : Int) (so : Option Addr) (n sc : Nat) (w : World) (hh : H3 w g 4 a b) :
    Calls Try.prog 34 #[.agg #[.bool t, .int .i64 f], .slice so n sc, .pointer (some ⟨g, 0, none⟩)] w (RtA ⟨0, 0, 0, [], false, f⟩ w) := by
  have hg := hh.lt
  have hg2 : g < w.heap.size ∧ g < w.heap.size + 1 ∧ g < w.heap.size + 1 + 1 ∧ g < w.heap.size + 1 + 1 + 1 ∧ ¬ g = w.heap.size ∧ ¬ g = w.heap.size + 1 ∧ ¬ g = w.heap.size + 1 + 1 ∧ ¬ g = w.heap.size + 1 + 1 + 1 := by omega
  obtain ⟨c0, c1, c2⟩ := hh
  go_enter Try.func34, Try.ntmps34
  go_wp2
  go_returns
  exact RtA.noS (r := ⟨0, 0, 0, [], false, f⟩) rfl (by repeat' (first | (with_reducible exact Below.refl _ _) | (with_reducible refine kept_below ?_ (by assumption) ?_) | (with_reducible refine Below.alloc ?_ ?_ _) | (with_reducible refine Below.drew ?_) | (with_reducible refine Below.setCell ?_ ?_ _) | go_size))

set_option maxRecDepth 100000 in
set_option maxHeartbeats 800000 in
theorem sRoute_t (g : Nat) (f k a b : Int) (so : Option Addr) (n sc : Nat) (w : World) (hh : H3 w g k a b) (h3 : k ≠ 3) (h4 : k ≠ 4) :
    Calls Try.prog 34 #[.agg #[.bool true, .int .i64 f], .slice so n sc, .pointer (some ⟨g, 0, none⟩)] w (RtA ⟨0, 0, 0, [], true, f⟩ w) := by
  have hg := hh.lt
  have hg2 : g < w.heap.size ∧ g < w.heap.size + 1 ∧ g < w.heap.size + 1 + 1 ∧ g < w.heap.size + 1 + 1 + 1 ∧ ¬ g = w.heap.size ∧ ¬ g = w.heap.size + 1 ∧ ¬ g = w.heap.size + 1 + 1 ∧ ¬ g = w.heap.size + 1 + 1 + 1 := by omega
  obtain ⟨c0, c1, c2⟩ := hh
  have e3 : (k == 3) = false := by simpa using h3
  have e4 : (k == 4) = false := by simpa using h4
  go_enter Try.func34, Try.ntmps34
  go_wp2
  go_returns
  exact RtA.noS (r := ⟨0, 0, 0, [], true, f⟩) rfl (by repeat' (first | (with_reducible exact Below.refl _ _) | (with_reducible refine kept_below ?_ (by assumption) ?_) | (with_reducible refine Below.alloc ?_ ?_ _) | (with_reducible refine Below.drew ?_) | (with_reducible refine Below.setCell ?_ ?_ _) | go_size))

set_option maxRecDepth 100000 in
set_option maxHeartbeats 800000 in
theorem sRoute_k0 (g : Nat) (a b : Int) (so : Option Addr) (n sc : Nat) (w : World) (hh : H3 w g 1 a b) :
    Calls Try.prog 34 #[.agg #[.bool false, .int .i64 0], .slice so n sc, .pointer (some ⟨g, 0, none⟩)] w (RtA ⟨0, 0, 0, [], false, 0⟩ w) := by
  have hg := hh.lt
  have hg2 : g < w.heap.size ∧ g < w.heap.size + 1 ∧ g < w.heap.size + 1 + 1 ∧ g < w.heap.size + 1 + 1 + 1 ∧ ¬ g = w.heap.size ∧ ¬ g = w.heap.size + 1 ∧ ¬ g = w.heap.size + 1 + 1 ∧ ¬ g = w.heap.size + 1 + 1 + 1 := by omega
  obtain ⟨c0, c1, c2⟩ := hh
  go_enter Try.func34, Try.ntmps34
  go_wp2
  go_returns
  exact RtA.noS (r := ⟨0, 0, 0, [], false, 0⟩) rfl (by repeat' (first | (with_reducible exact Below.refl _ _) | (with_reducible refine kept_below ?_ (by assumption) ?_) | (with_reducible refine Below.alloc ?_ ?_ _) | (with_reducible refine Below.drew ?_) | (with_reducible refine Below.setCell ?_ ?_ _) | go_size))

set_option maxRecDepth 100000 in
set_option maxHeartbeats 800000 in
theorem sRoute_k1 (g : Nat) (f a b : Int) (so : Option Addr) (n sc : Nat) (w : World) (hh : H3 w g 1 a b) (hf : f ≠ 0) (ha : 0 ≤ a ∧ a ≤ 255) :
    Calls Try.prog 34 #[.agg #[.bool false, .int .i64 f], .slice so n sc, .pointer (some ⟨g, 0, none⟩)] w (RtA ⟨0, f, 4, [a], false, f⟩ w) := by
  have hg := hh.lt
  have hg2 : g < w.heap.size ∧ g < w.heap.size + 1 ∧ g < w.heap.size + 1 + 1 ∧ g < w.heap.size + 1 + 1 + 1 ∧ ¬ g = w.heap.size ∧ ¬ g = w.heap.size + 1 ∧ ¬ g = w.heap.size + 1 + 1 ∧ ¬ g = w.heap.size + 1 + 1 + 1 := by omega
  obtain ⟨c0, c1, c2⟩ := hh
  have e0 : (f != 0) = true := by simpa using hf
  have hm : a % 256 = a := by omega
  go_enter Try.func34, Try.ntmps34
  go_wp2
  go_returns
  refine ⟨some ⟨w.heap.size + 1 + 1 + 1, 0, none⟩, 1, rfl, ?_, by repeat' (first | (with_reducible exact Below.refl _ _) | (with_reducible refine kept_below ?_ (by assumption) ?_) | (with_reducible refine Below.alloc ?_ ?_ _) | (with_reducible refine Below.drew ?_) | (with_reducible refine Below.setCell ?_ ?_ _) | go_size)⟩
  have O := OwnR.lit .u8 5 (((w.alloc (.cells #[.bool false, .int .i64 f] 32)).alloc (.cells #[.int .i64 0, .int .i64 f, .int .i64 4, .slice (some ⟨w.heap.size + 1 + 1 + 1, 0, none⟩) 1 1, .bool false, .int .i64 f] 56)).alloc (.cells #[.int .i64 0, .int .i64 f, .int .i64 4, .slice (some ⟨w.heap.size + 1 + 1 + 1, 0, none⟩) 1 1, .bool false, .int .i64 f] 56)) w.heap.size [a] #[.int .u8 a] rfl (by simp; omega) (by unfold maxLen; simp)
  simpa using O
end Go.Proofs.Ytdigknenijmjcaa
