/- Copies of stacks, in whatever later world. -/
import Derived.Test.YtoipcnpemmajaaaWi3
namespace Go.Proofs.Ytoipcnpemmajaaa
open Go.RowKit
set_option linter.unusedVariables false

/-- Copies of a stack, in whatever later world. -/
def CopyW (so : Option Addr) (sc n : Nat) (C : List Wc) (z : Nat) (w : World) : Prop :=
  ∀ w1, Below w.heap.size w w1 → Calls Try.prog 28 #[.slice so n sc] w1 fun e w' => ∃ (s : Option Addr) (M : List Wn), e = .returned (.slice s n n) ∧ M.length = n ∧ wzs M = z ∧ M.map Wn.ct = C ∧ Wq Wn.vals w' w1.heap.size w'.heap.size s M ∧ Below w1.heap.size w1 w'
theorem copyW (lo hi : Nat) (so : Option Addr) (sc : Nat) (L : List Wn) (w : World) (hL : Ws w lo hi so L) (hs : hi ≤ w.heap.size) (hn : L.length + wzs L ≤ 1048576) : CopyW so sc L.length (L.map Wn.ct) (wzs L) w := fun w1 k =>
  (toWS_any lo hi so sc L w1 (hL.keep k hs) (Nat.le_trans hs k.size) hn).mono fun e w' ⟨s, M, he, hc, hq, hb⟩ => ⟨s, M, by rw [he, lenW hc], lenW hc, wzs_ct hc, hc, hq, hb⟩
theorem eqW_n (n z : Nat) {C : List Wc} {lo hi lo2 hi2 : Nat} {s t : Option Addr} {c d : Nat} {M N : List Wn} {w : World} (hl : M.length = n) (hz : wzs M = z) (hM : M.map Wn.ct = C) (hN : N.map Wn.ct = C) (h1 : Wq Wn.vals w lo hi s M) (h2 : Wq Wn.vals w lo2 hi2 t N) (hn : n + z ≤ 1048576) :
    Calls Try.prog 30 #[.slice s n c, .slice t n d] w fun e w' => e = .returned (.bool true) ∧ Below w.heap.size w w' := by
  have hh := eqWS_same lo hi lo2 hi2 s t c d M N w (hN.trans hM.symm) h1.ws h2.ws h1.hs h2.hs (by omega)
  have hN' : N.length = n := by rw [← hl]; exact lenW (hN.trans hM.symm)
  rw [hl, hN'] at hh
  exact hh
theorem szW_n {lo hi : Nat} {so : Option Addr} {sc : Nat} {L : List Wn} {w : World} (hL : Ws w lo hi so L) (hs : hi ≤ w.heap.size) (hn : L.length + wzs L ≤ 1048576) :
    Calls Try.prog 26 #[.slice so L.length sc, .int .i64 1048576] w fun e w' => e = .returned (.int .i64 (1048576 - ((L.length + wzs L : Nat) : Int))) ∧ Below w.heap.size w w' := by
  have SZ := szWS_any lo hi so sc L 1048576 w hL hs (by unfold maxLen; omega) (fun r hr => by have := wzs_mem hr; unfold maxLen; omega) (by omega) (by omega)
  rwa [szV_yes (by omega)] at SZ
end Go.Proofs.Ytoipcnpemmajaaa
