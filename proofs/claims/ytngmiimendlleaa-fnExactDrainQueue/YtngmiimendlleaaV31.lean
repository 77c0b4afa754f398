/- Messages cut in two, copied over themselves, cleared. -/
import Derived.Test.YtngmiimendlleaaV24
import Derived.Test.YtngmiimendlleaaV30
import Derived.Laws.CopyRow
import Derived.Lib.SliceRun
namespace Go.Proofs.Ytngmiimendlleaa
open Go.RowKit
set_option linter.unusedVariables false

theorem elemM : Try.prog.elem 26 = 52 := by kernel_rfl
theorem Try.sizeM (w : World) : (sizeOf 52).run Try.prog w = .ok 2 w := by
  obtain ⟨i0, hi0, hz0, hz1, hz2⟩ := info_parts Try.infoM
  simp [sizeOf, typeInfo, hi0, hz1]
/-- Where the rest of a cut begins. -/
def oFrom (so : Option Addr) (cap i : Nat) : Option Addr := if cap = i then so else so.map (·.add (i * 2))
set_option maxRecDepth 100000 in
theorem smg_from (so : Option Addr) (len cap : Nat) (kl : IntKind) (l : Int) (h0 : 0 ≤ l) (h1 : l ≤ len) (w : World) :
    (Instr.slice 26 (.slice so len cap) (some (.int kl l)) none none).run Try.prog w = .ok (.slice (oFrom so cap l.toNat) (len - l.toNat) (cap - l.toNat)) w := by
  rw [run_slice_l w 26 _ len cap Try.underlying26 kl l h0 h1, elemM, Try.sizeM]
  simp only [Result.andThen_ok]
  rfl
set_option maxRecDepth 100000 in
theorem smg_upto (so : Option Addr) (hs : ∀ a, so = some a → a.add 0 = a) (len cap : Nat) (kh : IntKind) (h : Int) (h0 : 0 ≤ h) (h1 : h ≤ cap) (w : World) :
    (Instr.slice 26 (.slice so len cap) none (some (.int kh h)) none).run Try.prog w = .ok (.slice so h.toNat cap) w := by
  rw [run_slice_h w 26 _ len cap Try.underlying26 kh h h0 h1, elemM, Try.sizeM]
  simp only [Result.andThen_ok]
  unfold sliced
  cases so with
  | none => simp
  | some a => simp [hs a rfl]
theorem addr0 (g o : Nat) : (⟨g, o, none⟩ : Addr).add 0 = ⟨g, o, none⟩ := by rw [add_none]; rfl

theorem cells_copy (w : World) (dT sT ty elem : TypeId) (k g o dLen dCap : Nat) (a : Addr) (sLen sCap : Nat) (cur : Array Value) (t : TypeId) (cs : List Value)
    (hu : Try.prog.underlying dT = some (.slice elem)) (hs : (Try.prog.info? elem).map (·.size) = some k)
    (hg : w.heap[g]? = some (.cells cur t (0, 0))) (hn : cs.length = Nat.min sLen dLen * k)
    (hsrc : ∀ j v, cs[j]? = some v → w.cell? (a.add j) = some v) (hfit : o + cs.length ≤ cur.size) (h1 : ∀ v ∈ cs, v.oneCell' = true) :
    (Builtin.copy_ #[dT, sT] ty #[.slice (some ⟨g, o, none⟩) dLen dCap, .slice (some a) sLen sCap]).run Try.prog w =
      .ok (goInt (Nat.min sLen dLen : Nat)) (w.setRow g (cur.toList.take o ++ cs ++ cur.toList.drop (o + cs.length)).toArray) := by
  have hl := run_loadCells_list (P := Try.prog) w a cs hsrc
  have hst := run_storeCells_at Try.prog g o t cs 0 cur w hg (by simpa using hfit) h1
  cases hq : Try.prog.info? elem with
  | none => simp [hq] at hs
  | some i =>
    have hi : i.size = k := by simpa [hq] using hs
    simp [Builtin.copy_, run_underlying hu, Builtin.lenOf, Builtin.firstCells, sizeOf, typeInfo, hq, hi, ← hn, hl, hst]
/-- Cells of so many zero messages. -/
def zrs : Nat → List Value
  | 0 => []
  | n + 1 => .int .i64 0 :: .slice none 0 0 :: zrs n
theorem zrs_len (n : Nat) : (zrs n).length = n * 2 := by induction n with
  | zero => rfl
  | succ n ih => simp only [zrs, List.length_cons, ih]; omega
theorem zrs_one (n : Nat) : ∀ v ∈ zrs n, v.oneCell' = true := by induction n with
  | zero => intro v hv; simp [zrs] at hv
  | succ n ih =>
    intro v hv
    simp only [zrs, List.mem_cons] at hv
    rcases hv with rfl | rfl | hv
    · rfl
    · rfl
    · exact ih v hv
theorem zrs_of (n : Nat) : (Builtin.zeroCells #[.int .i64 0, .slice none 0 0] n).toList = zrs n := by
  have hat : ∀ n i, (zrs n)[i]? = if i < n * 2 then some (if i % 2 = 0 then Value.int .i64 0 else .slice none 0 0) else none := by
    intro n
    induction n with
    | zero => intro i; simp [zrs]
    | succ n ih =>
      intro i
      match i with
      | 0 => simp [zrs]
      | 1 => simp [zrs]; omega
      | i + 2 =>
        simp only [zrs, List.getElem?_cons_succ, ih]
        have e : (i + 2) % 2 = i % 2 := by omega
        have e2 : (i + 2 < (n + 1) * 2) ↔ i < n * 2 := by omega
        simp only [e, e2]
  apply List.ext_getElem?
  intro i
  rw [hat]
  by_cases h : i < n * 2
  · rw [if_pos h]
    simp only [Builtin.zeroCells, Array.toList_map, List.getElem?_map, Array.toList_range]
    rw [List.getElem?_range (by simpa using h)]
    simp only [Option.map_some]
    have h2 : i % 2 = 0 ∨ i % 2 = 1 := by omega
    rcases h2 with h2 | h2 <;> simp [h2]
  · rw [if_neg h]
    simp [Builtin.zeroCells]
    omega
theorem cells_clear (w : World) (ty : TypeId) (g o n cap : Nat) (cur : Array Value) (t : TypeId) (hn : 0 < n) (hg : w.heap[g]? = some (.cells cur t (0, 0))) (hfit : o + n * 2 ≤ cur.size) :
    (Builtin.clear_ #[26] ty #[.slice (some ⟨g, o, none⟩) n cap]).run Try.prog w = .ok (.tuple #[]) (w.setRow g (cur.toList.take o ++ zrs n ++ cur.toList.drop (o + n * 2)).toArray) := by
  have hst := run_storeCells_at Try.prog g o t (zrs n) 0 cur w hg (by rw [zrs_len]; simpa using hfit) (zrs_one n)
  rw [zrs_len] at hst
  have hz : (Value.agg #[.int .i64 0, .slice none 0 0]).cells = #[.int .i64 0, .slice none 0 0] := by rfl
  obtain ⟨m, rfl⟩ : ∃ m, n = m + 1 := ⟨n - 1, by omega⟩
  simp [Builtin.clear_, run_underlying Try.underlying26, hz, zrs_of, hst]
end Go.Proofs.Ytngmiimendlleaa
