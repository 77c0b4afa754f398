/- Frames cut by the program: a piece copied; the machine. -/
import Derived.Test.YtngmiimendlleaaV8
import Derived.Test.YtngmiimendlleaaV17
import Derived.Test.YtngmiimendlleaaV18
import Derived.Test.YtngmiimendlleaaV11
import Derived.Laws.CopyOwn
namespace Go.Proofs.Ytngmiimendlleaa
open Go.RowKit
set_option linter.unusedVariables false
attribute [local go_sem high] sl_from sl_upto

set_option maxRecDepth 100000 in
set_option maxHeartbeats 1000000 in
theorem copy_any (lo hi : Nat) (ao : Option Addr) (ca : Nat) (L : List Int) (w : World) (hR : Row .u8 w lo hi ao L) (hs : hi ≤ w.heap.size) (hl : L.length ≤ 1048576) (hne : L ≠ []) :
    Calls Try.prog 41 #[.slice ao L.length ca] w fun e w' => e = .returned (.slice (some ⟨w.heap.size, 0, none⟩) L.length L.length) ∧ OwnR .u8 5 w' w.heap.size (some ⟨w.heap.size, 0, none⟩) L.length L ∧ Below w.heap.size w w' := by
  rcases hR with e | ⟨g, o, rfl, _, hg, hc⟩
  · exact absurd e hne
  have HC := hideP hc
  have hl' : (L.length : Int) ≤ 1048576 := by omega
  obtain ⟨i0, hi0, hz0, hz1, hz2⟩ := info_parts Try.infoB
  have hsz : (Try.prog.info? 5).map (·.size) = some 1 := by rw [hi0]; simp [hz1]
  obtain ⟨cs, hcs⟩ : ∃ cs : List Value, L.map (Value.int .u8) = cs := ⟨_, rfl⟩
  have hcl : Hid (cs.length = L.length) := hideP (by rw [← hcs]; simp)
  have HCS := hideP hcs
  clear hc hcs
  go_enter Try.func41, Try.ntmps41
  go_wp2_with (first | (at_make; refine wpList_make_full _ rfl _ _ 50 rfl w.heap.size 5 i0 (.int .u8 0) 1 Try.underlying50 hi0 hz0 hz1 .i64 .i64 _ _ L.length rfl rfl rfl rfl (by rw [hz2]; omega) (by unfold maxLen; omega) (Nat.le_refl _) ?_; intro w1 hown1 hgrow1; refine Hid.out ?_) | go_in)
  have K1 : Hid (Below w.heap.size w w1) := hideP ((Below.refl _ w).grown hgrow1 (Nat.le_refl _) (by simp))
  obtain ⟨cur, hcur, hsize⟩ : ∃ cur : List Value, w1.heap[w.heap.size]? = some (.cells cur.toArray 5 (0, 0)) ∧ cur.length = L.length := by
    rcases hown1.2 with ⟨h, _⟩ | ⟨g', cap', cur, hv, _, h3, _, _, h6, _⟩
    · cases h
    · cases hv; exact ⟨cur.toList, by simpa using h3, by simpa using h6⟩
  have hsize := hideP hsize
  clear hown1 hgrow1
  refine hideP ?_
  have hsrc : ∀ (j : Nat) v, cs[j]? = some v → w1.cell? ((⟨g, o, none⟩ : Addr).add j) = some v := by
    intro j v hj
    rw [← HCS.out] at hj
    obtain ⟨hj', e⟩ := List.getElem?_eq_some_iff.1 hj
    rw [add_none, K1.out.cell (p := ⟨g, o + j, none⟩) (by show g < _; omega), HC.out j (by simpa using hj'), ← e]
    simp
  have h1 : ∀ v ∈ cs, v.oneCell' = true := by rw [← HCS.out]; exact ints_oneCell .u8 L
  have hrun := fun ty => run_copy_row (P := Try.prog) w1 50 50 ty 5 w.heap.size 0 L.length L.length ⟨g, o, none⟩ L.length ca cur.toArray 5 cs Try.underlying50 hsz hcur (by rw [hcl.out]; exact (Nat.min_self _).symm) hsrc (by rw [hcl.out]; simp; rw [hsize.out]; omega) h1
  have HG2 := hideP (setRow_heap w1 w.heap.size _ (cur.toArray.toList.take 0 ++ cs ++ cur.toArray.toList.drop (0 + cs.length)).toArray 5 _ hcur)
  have K2 := hideP (below_setRow K1.out (Nat.le_refl _) (cur.toArray.toList.take 0 ++ cs ++ cur.toArray.toList.drop (0 + cs.length)).toArray)
  generalize w1.setRow w.heap.size (cur.toArray.toList.take 0 ++ cs ++ cur.toArray.toList.drop (0 + cs.length)).toArray = w2 at hrun HG2 K2
  rw [hcl.out] at hrun
  clear hsrc hcur h1 K1
  go_wp2
  go_returns
  refine ⟨rfl, ⟨by simp, .inr ⟨w.heap.size, L.length, cs.toArray, rfl, Nat.le_refl _, ?_, Nat.le_refl _, by unfold maxLen; omega, by simp [hcl.out], ?_⟩⟩, K2.out⟩
  · have h := HG2.out
    have e : cur.toArray.toList.take 0 ++ cs ++ cur.toArray.toList.drop (0 + cs.length) = cs := by simp [hcl.out, ← hsize.out]
    rwa [e] at h
  · rw [HCS.out, ← hcl.out]; simp

end Go.Proofs.Ytngmiimendlleaa
