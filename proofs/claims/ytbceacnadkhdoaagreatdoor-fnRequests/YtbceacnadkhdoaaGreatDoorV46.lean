/- FnRequests: the law's walk, up to its great region. -/
import Derived.Test.YtbceacnadkhdoaaGreatDoorV27
import Derived.Test.YtbceacnadkhdoaaGreatDoorV28
import Derived.Test.YtbceacnadkhdoaaGreatDoorV38
import Derived.Test.YtbceacnadkhdoaaGreatDoorV41
import Derived.Test.YtbceacnadkhdoaaGreatDoorV43
import Derived.Test.YtbceacnadkhdoaaGreatDoorV44
import Derived.Test.YtbceacnadkhdoaaGreatDoorV45
import Derived.Test.YtbceacnadkhdoaaGreatDoorV30
namespace Go.Proofs.YtbceacnadkhdoaaGreatDoor
open Go.RowKit
set_option linter.unusedVariables false

section
variable {P : Program} {md : Region.Mode} {ops : Array Oper} {Q : Exit → Act → World → Prop} {S : World → Prop}
/-- What its guard forbids is passed over. -/
theorem held_skip {i : Nat} {oi : Oper} {fuel : Nat} {listed : Array Bool} {a : Act} {w : World} (hi : ops[i]? = some oi)
    (hs : Region.noSelect ops = true) (hf : Region.free md ops listed i = true) (hr : (Region.ready md ops listed).contains i = true)
    (hQ : ∀ c a d v w, Q (.panic c) (Act.put a d v) w → Q (.panic c) a w) (hS : S w) (hw : Region.wanted oi (yielded ops a.tmps) = false)
    (h : ∀ K : Act → Prop, (∀ a', wpAnyH P md ops Q S fuel (listed.setIfInBounds i true) a' w → K a') → K (a.put oi.dst undef)) : wpAnyH P md ops Q S (fuel + 1) listed a w :=
  wpAnyH_take hi hs hf hr (fun c a w => hQ c a _ _ w) (.inr ⟨hw, rfl⟩) hS (h _ fun _ h => h)
end

theorem Bytes.belowR {w w' : World} {B N : Nat} {a : Option Addr} {len : Nat} {f : Nat → Int} (h : Bytes w B a len f) (k : Below N w w') (hB : B ≤ N) : Bytes w' B a len f := by
  rcases h with h | ⟨xb, xo, ha, hx, hc⟩
  · exact .inl h
  · exact .inr ⟨xb, xo, ha, hx, fun i hi => ⟨(k.cell (p := ⟨xb, xo + i, none⟩) (by show xb < N; omega)).trans (hc i hi).1, (hc i hi).2⟩⟩
theorem bytes_up {w : World} {B B' : Nat} {a : Option Addr} {len : Nat} {f : Nat → Int} (h : Bytes w B a len f) (hB : B ≤ B') : Bytes w B' a len f := by
  rcases h with h | ⟨xb, xo, ha, hx, hc⟩
  · exact .inl h
  · exact .inr ⟨xb, xo, ha, by omega, hc⟩

/-- A request that was read, in its box. -/
structure QW (W : World) (b lo hi : Nat) (C k : Int) (ao bo : Option Addr) (ca cb : Nat) (A D : List Int) : Prop where
  box : R4 W b (.int .i64 C) (.int .i64 k) (.slice ao A.length ca) (.slice bo D.length cb)
  rowA : Row .i64 W lo hi ao A
  rowD : Row .u8 W lo hi bo D
theorem QW.keep {W W' : World} {b lo hi B : Nat} {C k : Int} {ao bo : Option Addr} {ca cb : Nat} {A D : List Int} (h : QW W b lo hi C k ao bo ca cb A D) (kk : Below B W W') (hb : b < B) (hh : hi ≤ B) : QW W' b lo hi C k ao bo ca cb A D := ⟨h.box.keep kk hb, h.rowA.keep kk hh, h.rowD.keep kk hh⟩

set_option maxHeartbeats 400000 in
theorem requests_big (a : Option Addr) (len cap : Nat) (w : World) (hl : len ≤ maxLen) (h : 1048576 < len) :
    Calls Tryz.prog 3 #[.slice a len cap] w fun e w' => e = .returned (.bool true) ∧ Below w.heap.size w w' := by
  have hd : decide ((1048576 : Int) < (len : Int)) = true := by simp; omega
  go_enter Tryz.func3, Tryz.ntmps3
  go_wp2_with (go_at_call 4; refine Calls.mono (bigQ _ _ _ _ hl) ?_; rintro e w0 ⟨rfl, hw0⟩; subst w0)
  go_returns
  exact ⟨rfl, Below.refl _ _⟩

end Go.Proofs.YtbceacnadkhdoaaGreatDoor
