/- Zeros joined to a row of numbers: append of make. -/
import Derived.Test.YtoipcnpemmajaaaTh3
import Derived.Lib.AppendZerosOnto
namespace Go.Proofs.Ytoipcnpemmajaaa
open Go.RowKit Go.Lib
set_option linter.unusedVariables false

theorem zeroCells_one (k : IntKind) (n : Nat) : (Builtin.zeroCells (Value.int k 0).cells n).toList = (List.replicate n 0).map (Value.int k) := by
  refine List.ext_getElem? fun j => ?_
  simp [Builtin.zeroCells, Value.cells]
  by_cases h : j < n
  · simp [h, Nat.mod_one]
  · simp [h]

theorem run_append_room_zeros {P : Program} (w : World) (t tn ty e : TypeId) (i : TypeInfo) (z : Value) (kq kn : IntKind) (ht : P.underlying t = some (.slice e)) (htn : P.underlying tn = some (.int kn)) (hi : P.info? e = some i) (hz : i.zero = some z)
    (g sLen sCap : Nat) (cur : Array Value) (hg : w.heap[g]? = some (.cells cur e (0, 0))) (k : Nat) (h0 : 0 < k) (hs : i.size = 1) (news : List Value) (hn : (Builtin.zeroCells z.cells k).toList = news) (hl : news.length = k) (h1 : ∀ u ∈ news, u.oneCell' = true)
    (h63 : (k : Int) ≤ 9223372036854775807) (h48 : k * i.bytes ≤ 281474976710656) (hroom : sLen + k ≤ sCap) (hfit : sLen + k ≤ cur.size) :
    (Builtin.append_ #[t, tn] ty #[.slice (some ⟨g, 0, none⟩) sLen sCap, .int kq k]).run P w =
      .ok (.slice (some ⟨g, 0, none⟩) (sLen + k) sCap) (w.setRow g (cur.toList.take sLen ++ news ++ cur.toList.drop (sLen + k)).toArray) := by
  have hst := run_storeCells_at P g sLen e news 0 cur w hg (by omega) h1
  simp only [Nat.add_zero, hl] at hst
  have hw : IntKind.i64.wrap (k : Int) = k := by rw [IntKind.wrap_i64]; omega
  have h48i : ¬ (281474976710656 < (k : Int) * (i.bytes : Int)) := by
    rw [← Int.natCast_mul]
    omega
  have hneg : ¬ ((k : Int) < 0) := by omega
  have hns : ¬ (k = 0) := by omega
  simp [Builtin.append_, run_underlying ht, run_underlying htn, sizeOf, typeInfo, zeroValue, hi, hz, hs, asInt, asIntOf, hw, hneg, hns, h48i, hroom, hn, Addr.add_lit, hst]

theorem run_zeros_own {k : IntKind} {T S N : TypeId} {kn : IntKind} {bytes : Nat} {w : World} (ty : TypeId)
    (hu : Try.prog.underlying S = some (.slice T)) (hN : Try.prog.underlying N = some (.int kn)) (hinf : (Try.prog.info? T).map (fun i => (i.zero, i.size, i.bytes)) = some (some (.int k 0), 1, bytes)) (hby : bytes ≤ 8)
    (base : Nat) (ao : Option Addr) (cap : Nat) (M : List Int) (hown : OwnR k T w base ao cap M) (kq : IntKind) (n : Nat) (h0 : 0 < n) (hn : M.length + n ≤ 2097152) (hbase : base ≤ w.heap.size) :
    ∃ ao' cap' w', (Builtin.append_ #[S, N] ty #[.slice ao M.length cap, .int kq n]).run Try.prog w = .ok (.slice ao' (M ++ List.replicate n 0).length cap') w' ∧ OwnR k T w' base ao' cap' (M ++ List.replicate n 0) ∧ Below base w w' := by
  obtain ⟨i0, hi0, hz0, hz1, hz2⟩ := info_parts hinf
  have hzc := zeroCells_one k n
  have hlen : (M ++ List.replicate n 0).length = M.length + n := by simp
  have hb8 : (M.length + n) * i0.bytes ≤ 2097152 * 8 := Nat.mul_le_mul hn (by omega)
  have hb9 : n * i0.bytes ≤ 2097152 * 8 := Nat.mul_le_mul (by omega) (by omega)
  have fits : ∀ old, old < M.length + n → Builtin.nextslicecap (M.length + n) old * i0.bytes ≤ 281474976710656 := fun old ho => growslice_fits ho (by omega)
  -- a new row
  have grown : ∀ (old : Nat) (olds : List Value), old < M.length + n → olds = M.map (Value.int k) → OwnR k T (w.drew.alloc (.cells (olds.toArray ++ Builtin.zeroCells (Value.int k 0).cells n ++ Builtin.zeroCells (Value.int k 0).cells (grownCap w (M.length + n) old T - (M.length + n))) T)) base (some ⟨w.heap.size, 0, none⟩) (grownCap w (M.length + n) old T) (M ++ List.replicate n 0) := by
    intro old olds ho he
    have hge := grownCap_ge w (M.length + n) old T
    have hcm : grownCap w (M.length + n) old T ≤ maxLen := grownCap_le_maxLen w (M.length + n) old T (by unfold maxLen; omega)
    subst he
    refine ⟨by simp, .inr ⟨w.heap.size, _, _, by rw [hlen], hbase, heap_alloc_new w.drew _, by rw [hlen]; exact hge, hcm, ?_, ?_⟩⟩
    · simp [size_zeroCells, Value.cells]; omega
    · simp only [Array.toList_append, hzc, List.map_append, hlen, Nat.mul_one]
      rw [show M.length + n = (M.map (Value.int k) ++ (List.replicate n 0).map (Value.int k)).length by simp]
      exact List.take_left
  rcases hown.2 with ⟨hv, hM⟩ | ⟨g, cap', cur, hv, hbg, hg, hnc, hcm, hcs, htake⟩
  · have hM0 : M = [] := List.eq_nil_of_length_eq_zero hM
    subst hM0
    cases hv
    have hr := run_append_grow_zeros (P := Try.prog) w S N ty T i0 (.int k 0) kq kn hu hN hi0 hz0 none 0 0 [] (by exact run_firstCells_none w.drew i0.size 0 0 0) n h0 (by omega) (by omega) (by omega) (by omega) (fits 0 (by simpa using h0))
    exact ⟨_, _, _, by rw [hlen]; exact hr, grown 0 [] (by simpa using h0) rfl, (Below.refl base w).drew.alloc (by simpa using hbase) _⟩
  · cases hv
    by_cases hroom : M.length + n ≤ cap
    · have hr := run_append_room_zeros (P := Try.prog) w S N ty T i0 (.int k 0) kq kn hu hN hi0 hz0 g M.length cap cur hg n h0 hz1 _ hzc (by simp) (ints_oneCell k _) (by omega) (by omega) hroom (by omega)
      refine ⟨_, _, _, by rw [hlen]; exact hr, ⟨by simp, .inr ⟨g, cap, _, by rw [hlen], hbg, setRow_heap w g cur _ T _ hg, by rw [hlen]; exact hroom, hcm, ?_, ?_⟩⟩, ?_⟩
      · simp; omega
      · simp only [Nat.mul_one] at htake
        rw [htake]
        simp only [hlen, Nat.mul_one, List.map_append]
        rw [show M.length + n = (M.map (Value.int k) ++ (List.replicate n 0).map (Value.int k)).length by simp]
        exact List.take_left
      · exact (Below.refl base w).grown ⟨rfl, rfl, rfl, by simp, fun j _ hj => setRow_other w g j _ (fun e => hj (by rw [e]))⟩ hbase fun b hb => by cases hb; exact hbg
    · have holds : ∀ j u, (M.map (Value.int k))[j]? = some u → w.cell? ((⟨g, 0, none⟩ : Addr).add j) = some u := World.ownsRow.cells hown (g := g) rfl
      have hfc : (Builtin.firstCells i0.size M.length (.slice (some ⟨g, 0, none⟩) M.length cap)).run Try.prog w.drew = .ok (M.map (Value.int k)).toArray w.drew := run_firstCells_some w.drew i0.size M.length ⟨g, 0, none⟩ M.length cap _ (by simp [hz1]) holds
      have hr := run_append_grow_zeros (P := Try.prog) w S N ty T i0 (.int k 0) kq kn hu hN hi0 hz0 (some ⟨g, 0, none⟩) M.length cap _ hfc n h0 (by omega) (by omega) (by omega) (by omega) (fits cap (by omega))
      exact ⟨_, _, _, by rw [hlen]; exact hr, grown cap _ (by omega) rfl, (Below.refl base w).drew.alloc (by simpa using hbase) _⟩
end Go.Proofs.Ytoipcnpemmajaaa
