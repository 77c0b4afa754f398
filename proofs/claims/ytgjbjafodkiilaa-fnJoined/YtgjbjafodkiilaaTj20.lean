/- Frames cut by the program: a piece copied; the machine. Regions whose order is open: what only reads, then two that make memory, one behind the other, then the rest. No conditions on the program. -/
import Derived.Test.YtgjbjafodkiilaaTj17
import Derived.Test.YtgjbjafodkiilaaTj18
import Derived.Test.YtgjbjafodkiilaaTj19
import Derived.Test.YtgjbjafodkiilaaTj10
import Derived.Laws.CopyOwn
import Derived.Test.YtgjbjafodkiilaaTj1
namespace Go.Proofs.Ytgjbjafodkiilaa
open Go.RowKit
set_option linter.unusedVariables false
attribute [local go_sem high] sl_from sl_upto

set_option maxRecDepth 100000 in
set_option maxHeartbeats 1000000 in
theorem copy_any (lo hi : Nat) (ao : Option Addr) (ca : Nat) (L : List Int) (w : World) (hR : Row .u8 w lo hi ao L) (hs : hi ≤ w.heap.size) (hl : L.length ≤ 1048576) (hne : L ≠ []) :
    Calls Try.prog 46 #[.slice ao L.length ca] w fun e w' => e = .returned (.slice (some ⟨w.heap.size, 0, none⟩) L.length L.length) ∧ OwnR .u8 5 w' w.heap.size (some ⟨w.heap.size, 0, none⟩) L.length L ∧ Below w.heap.size w w' := by
  rcases hR with e | ⟨g, o, rfl, _, hg, hc⟩
  · exact absurd e hne
  have HC := hideP hc
  have hl' : (L.length : Int) ≤ 1048576 := by omega
  obtain ⟨i0, hi0, hz0, hz1, hz2⟩ := info_parts Try.infoB
  have hsz : (Try.prog.info? 5).map (·.size) = some 1 := by rw [hi0]; simp [hz1]
  obtain ⟨cs, hcs⟩ : ∃ cs : List Value, L.map (Value.int .u8) = cs := ⟨_, rfl⟩
  have hcl : Hid (cs.length = L.length) := hideP (by rw [← hcs]; simp)
  have HCS := hideP hcs
  clear hc hcs
  go_enter Try.func46, Try.ntmps46
  go_wp2_with (first | (at_make; refine wpList_make_full _ rfl _ _ 22 rfl w.heap.size 5 i0 (.int .u8 0) 1 Try.underlying22 hi0 hz0 hz1 .i64 .i64 _ _ L.length rfl rfl rfl rfl (by rw [hz2]; omega) (by unfold maxLen; omega) (Nat.le_refl _) ?_; intro w1 hown1 hgrow1; refine Hid.out ?_) | go_in)
  have K1 : Hid (Below w.heap.size w w1) := hideP ((Below.refl _ w).grown hgrow1 (Nat.le_refl _) (by simp))
  obtain ⟨cur, hcur, hsize⟩ : ∃ cur : List Value, w1.heap[w.heap.size]? = some (.cells cur.toArray 5 (0, 0)) ∧ cur.length = L.length := by
    rcases hown1.2 with ⟨h, _⟩ | ⟨g', cap', cur, hv, _, h3, _, _, h6, _⟩
    · cases h
    · cases hv; exact ⟨cur.toList, by simpa using h3, by simpa using h6⟩
  have hsize := hideP hsize
  clear hown1 hgrow1
  refine hideP ?_
  have hsrc : ∀ (j : Nat) v, cs[j]? = some v → w1.cell? ((⟨g, o, none⟩ : Addr).add j) = some v := by
    intro j v hj
    rw [← HCS.out] at hj
    obtain ⟨hj', e⟩ := List.getElem?_eq_some_iff.1 hj
    rw [add_none, K1.out.cell (p := ⟨g, o + j, none⟩) (by show g < _; omega), HC.out j (by simpa using hj'), ← e]
    simp
  have h1 : ∀ v ∈ cs, v.oneCell' = true := by rw [← HCS.out]; exact ints_oneCell .u8 L
  have hrun := fun ty => run_copy_row (P := Try.prog) w1 22 22 ty 5 w.heap.size 0 L.length L.length ⟨g, o, none⟩ L.length ca cur.toArray 5 cs Try.underlying22 hsz hcur (by rw [hcl.out]; exact (Nat.min_self _).symm) hsrc (by rw [hcl.out]; simp; rw [hsize.out]; omega) h1
  have HG2 := hideP (setRow_heap w1 w.heap.size _ (cur.toArray.toList.take 0 ++ cs ++ cur.toArray.toList.drop (0 + cs.length)).toArray 5 _ hcur)
  have K2 := hideP (below_setRow K1.out (Nat.le_refl _) (cur.toArray.toList.take 0 ++ cs ++ cur.toArray.toList.drop (0 + cs.length)).toArray)
  generalize w1.setRow w.heap.size (cur.toArray.toList.take 0 ++ cs ++ cur.toArray.toList.drop (0 + cs.length)).toArray = w2 at hrun HG2 K2
  rw [hcl.out] at hrun
  clear hsrc hcur h1 K1
  go_wp2
  go_returns
  refine ⟨rfl, ⟨by simp, .inr ⟨w.heap.size, L.length, cs.toArray, rfl, Nat.le_refl _, ?_, Nat.le_refl _, by unfold maxLen; omega, by simp [hcl.out], ?_⟩⟩, K2.out⟩
  · have h := HG2.out
    have e : cur.toArray.toList.take 0 ++ cs ++ cur.toArray.toList.drop (0 + cs.length) = cs := by simp [hcl.out, ← hsize.out]
    rwa [e] at h
  · rw [HCS.out, ← hcl.out]; simp

end Go.Proofs.Ytgjbjafodkiilaa

namespace Go.Proofs.Ytgjbjafodkiilaa
open Go.RowKit
set_option linter.unusedVariables false

section
variable {P : Program} {ops : Array Oper} {md : Region.Mode}

def made2B (md : Region.Mode) (ops : Array Oper) (n : Nat) : Bool :=
  Region.noSelect ops && waitsB md ops (n + 2) && decide (n + 1 < ops.size) && Region.lexHead md ops (ops.size - n) n 0 (Array.replicate ops.size false)

theorem wp_region_made2 {id : Nat} {Q : Exit → Act → World → Prop} {a : Act} {w : World} {l : List Oper} (n : Nat) (hm : P.follows .mixedOrders = true) (hB : made2B .any l.toArray n = true)
    (h : wpGrow P l.toArray w (fun a' => ∀ o o2, l[n]? = some o → l[n + 1]? = some o2 → Region.wanted o (yielded l.toArray a'.tmps) = true ∧ ∀ w1, Kept w w1 →
      madeAt P o a' w1 fun w2 v => Region.wanted o2 (yielded l.toArray (a'.put o.dst v).tmps) = true ∧ ∀ w3, Kept w2 w3 → madeAt P o2 (a'.put o.dst v) w3 fun w4 u => ∀ w5, Kept w4 w5 → wpList P l.toArray Q (l.drop (n + 2)) ((a'.put o.dst v).put o2.dst u) w5) (l.take n) a) : (Code.region id l.toArray true).wp P Q a w := by
  simp only [made2B, Bool.and_eq_true, decide_eq_true_eq] at hB
  obtain ⟨⟨⟨hsel, hw⟩, hn⟩, hlex⟩ := hB
  have hn' : n + 1 < l.length := by simpa using hn
  have e1 : (l.take n).length = n := by simp; omega
  have e2 : (l.drop (n + 2)).length = l.toArray.size - (n + 2) := by simp
  have inv : HeadInv .any l.toArray (n + 2) (Array.replicate l.toArray.size false) :=
    ⟨by simp, fun j oj _ hl => (by rw [getD_replicate_false] at hl; cases hl), fun t _ ht => getD_in (by simpa using ht) (getD_replicate_false _ _)⟩
  let Z : World → Array Bool → Act → Prop := fun W s a => Region.seqB .any l.toArray (l.toArray.size - (n + 2)) (n + 2) s = true ∧ ∀ w3, Kept W w3 → wpList P l.toArray Q (l.drop (n + 2)) a w3
  have ho2 : l.toArray[n + 1]? = some l[n + 1] := by simp [hn']
  have H := opens_lex (P := P) (md := .any) (ops := l.toArray) (N := n + 2) (n := n) (m := 2) (Z := Z) (W := w) (G := fun k s => Region.seqB .any l.toArray (l.toArray.size - n) k s)
    (L := fun f k s => Region.lexHead .any l.toArray (l.toArray.size - n) f k s) hsel hw (by omega) (fun W s a hz => seqB_ready hz.1) (fun s a' _ hG hE => by
      have e3 : l.toArray.size - n = (l.toArray.size - (n + 2)) + 1 + 1 := by omega
      simp only [e3, Region.seqB, Bool.and_eq_true, decide_eq_true_eq] at hG
      refine ⟨by rw [hG.1]; simp, fun i hi => ?_⟩
      rw [hG.1] at hi
      have hin : i = n := by simpa using hi
      subst hin
      refine ⟨by omega, fun o hoi => ?_⟩
      obtain ⟨hwt, hmk⟩ := hE o l[i + 1] (by simpa using hoi) (by simp [hn'])
      refine .inr ⟨hwt, fun w1 k1 => ?_⟩
      refine madeUpon_mono (fun w2 v _ hz => ?_) (hmk w1 k1)
      refine ⟨by rw [hG.2.1]; simp, fun j hj => ?_⟩
      rw [hG.2.1] at hj
      obtain rfl : j = i + 1 := by simpa using hj
      refine ⟨by omega, fun oj hoj => ?_⟩
      obtain rfl : oj = l[i + 1] := Option.some.inj (hoj.symm.trans ho2)
      refine .inr ⟨hz.1, fun w3 k3 => ?_⟩
      refine madeUpon_mono (fun w4 u _ hz' => ?_) (hz.2 w3 k3)
      exact ⟨hG.2.2, hz'⟩) (fun k s => rfl) (fun f k s => rfl) (l.take n) 0 _ a (fun j hj => by
      rw [e1] at hj
      simp [hj]) (by simpa using e1) inv (by rw [e1]; exact hlex) h
  refine wp_region_any hm ?_
  have A := opens_any (Q := Q) (g := l.toArray.size - (n + 2)) (fun W s a' w' hk hz => by
    have B := wpAny_of_seq (md := .any) (Q' := Q) (l.drop (n + 2)) (n + 2) s a' w' (fun j => by simp [List.getElem?_drop]) (by rw [e2]; exact hz.1) (hz.2 w' hk)
    rwa [e2] at B) _ _ _ _ _ (show Kept w w.drew from (Below.refl _ _).drew) H
  have e4 : n + 2 + (l.toArray.size - (n + 2)) = l.toArray.size := by omega
  rw [e1, e4] at A
  exact A
end
end Go.Proofs.Ytgjbjafodkiilaa
