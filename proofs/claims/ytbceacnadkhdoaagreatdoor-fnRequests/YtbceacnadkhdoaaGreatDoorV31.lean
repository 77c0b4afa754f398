/- strconv.FormatUint of a byte. -/
import Derived.Test.YtbceacnadkhdoaaGreatDoorV30
import Derived.Lib.ItoaMem
import Derived.Shelf.Strconv.Itoa1
import Derived.Shelf.Strconv.Itoa2
namespace Go.Proofs.YtbceacnadkhdoaaGreatDoor
open Go.RowKit Go.Sort
set_option linter.unusedVariables false

theorem three {u : Nat} (h0 : 100 ≤ u) (h1 : u ≤ 255) : Lib.nDigits u = 3 := Lib.nDigits_unique 2 u (by omega) (by omega)

set_option maxRecDepth 100000 in
set_option maxHeartbeats 1000000 in
theorem fmt_small (u : Nat) (w : World) (h : u < 100) :
    Calls Tryz.prog 64 #[.int .u64 u, .int .i64 10] w fun e w' => e = .returned (.string (dS u)) ∧ Below w.heap.size w w' := by
  have hs := fun w => Any.internal_strconv_small (P := Tryz.prog) { Tryz.laysM171 with } u h w
  rw [dec_d3 u (by omega)] at hs
  have HS := hideP hs
  have h' : (u : Int) < 100 := by omega
  clear hs
  go_enter Tryz.func64, Tryz.ntmps64
  go_wp2_with fail
  refine Calls.mono (HS.out _) ?_
  rintro e w' ⟨rfl, rfl⟩
  go_wp2
  go_returns
  exact ⟨rfl, by go_grown⟩

set_option maxRecDepth 100000 in
set_option maxHeartbeats 2000000 in
theorem fmt_big (B : Nat) (u : Nat) (w : World) (hT : Tens B w) (h0 : 100 ≤ u) (h1 : u ≤ 255) :
    Calls Tryz.prog 64 #[.int .u64 u, .int .i64 10] w fun e w' => e = .returned (.string (dS u)) ∧ Below w.heap.size w w' := by
  have h3 := three h0 h1
  have hH0 := Lib.holds_zero0 w 111 3 (by omega)
  have hfmt := Any.internal_strconv_formatBase10 (P := Tryz.prog) { Tryz.laysM171 with } w.heap.size 0 24 u (Array.replicate 3 0) (w.alloc (.cells Lib.zeros24 111)) hH0 (by rw [Array.size_replicate]; omega) (by omega) (by rw [Array.size_replicate]; omega)
  rw [Array.size_replicate] at hfmt
  have hnd := Any.internal_strconv_numDigits (P := Tryz.prog) { Tryz.laysM171 with } u (by omega) (by omega) (w.alloc (.cells Lib.zeros24 111)) (Lib.tabIs_alloc (hT w (Below.refl _ _)) _)
  rw [h3] at hnd
  have HF := hideP hfmt
  have HN := hideP hnd
  have HH0 := hideP hH0
  have H3 := hideP h3
  have h' : ¬ ((u : Int) < 100) := by omega
  have hal : Tryz.prog.arrayLen 111 = 24 := by kernel_rfl
  have hsl1 : ∀ W, (Instr.sliceAt 111 (.pointer (some ⟨w.heap.size, 0, none⟩)) none (some (.int .i64 3)) none).run Tryz.prog W = .ok (.slice (some ⟨w.heap.size, 0, none⟩) 3 24) W := fun W => by
    rw [run_sliceAt_array_h W 111 ⟨w.heap.size, 0, none⟩ (by kernel_rfl) .i64 3 (by omega) (by rw [hal]; omega)]
    go_simp
    first | done | rfl
  clear hfmt hnd hH0 h3 hal
  go_enter Tryz.func64, Tryz.ntmps64
  go_wp2_with fail
  refine Calls.mono HN.out ?_
  rintro e w' ⟨rfl, rfl⟩
  go_wp2_with fail
  refine Calls.mono HF.out ?_
  rintro e w' ⟨rfl, k, v', dk, rfl, hF⟩
  have hcv : (convert 22 9 (.slice (some ⟨w.heap.size, 0, none⟩) 3 24)).run Tryz.prog ((putRow (fun (b : UInt8) => Value.int .u8 (b.toNat : Int)) (w.alloc (.cells Lib.zeros24 111)) w.heap.size 0 dk).drewN k) = .ok (.string (dS u)) ((putRow (fun (b : UInt8) => Value.int .u8 (b.toNat : Int)) (w.alloc (.cells Lib.zeros24 111)) w.heap.size 0 dk).drewN k) := by
    have hF' : Lib.FmtInv (Lib.nDigits u) u 0 v' dk := by rw [H3.out]; exact hF
    have h := run_convert_bytes_back (P := Tryz.prog) ((putRow (fun (b : UInt8) => Value.int .u8 (b.toNat : Int)) (w.alloc (.cells Lib.zeros24 111)) w.heap.size 0 dk).drewN k) 22 9 5 ⟨w.heap.size, 0, none⟩ 24 (Lib.decDigits u) Tryz.underlying22 Tryz.underlying5 Tryz.underlying9 (fun j hj => by
      rw [Lib.row_is_numeral hF' j hj, Lib.add_plain, World.cell?_drewN]
      exact cell?_putRow (fun (b : UInt8) => Value.int .u8 (b.toNat : Int)) _ w.heap.size 0 _ dk HH0.out (by rw [hF.size, Array.size_replicate]) j (by rw [hF.size]; rw [Lib.decDigits_length, H3.out] at hj; exact hj))
    rw [Lib.decDigits_length, H3.out, dec_d3 u (by omega)] at h
    exact h
  have hB : Hid (Below w.heap.size w ((putRow (fun (b : UInt8) => Value.int .u8 (b.toNat : Int)) (w.alloc (.cells Lib.zeros24 111)) w.heap.size 0 dk).drewN k)) := hideP (by
    rw [alloc_eq_grow]
    obtain ⟨os', _, e⟩ := putRow_grow_new (fun (b : UInt8) => Value.int .u8 (b.toNat : Int)) w #[.cells Lib.zeros24 111] w.heap.size 0 dk (Nat.le_refl _)
    rw [e]
    exact grown_below w k os')
  generalize (putRow (fun (b : UInt8) => Value.int .u8 (b.toNat : Int)) (w.alloc (.cells Lib.zeros24 111)) w.heap.size 0 dk).drewN k = w5 at *
  clear hF HF HN HH0
  go_wp2
  go_returns
  exact ⟨rfl, hB.out⟩

set_option maxHeartbeats 400000 in
/-- strconv.FormatUint at a byte. -/
theorem fmt_any (B : Nat) (u : Nat) (w : World) (hT : Tens B w) (h1 : u ≤ 255) :
    Calls Tryz.prog 49 #[.int .u64 u, .int .i64 10] w fun e w' => e = .returned (.string (dS u)) ∧ Below w.heap.size w w' := by
  have HT := hideP hT
  have hc : Calls Tryz.prog 64 #[.int .u64 u, .int .i64 10] w fun e w' => e = .returned (.string (dS u)) ∧ Below w.heap.size w w' := by
    by_cases h : u < 100
    · exact fmt_small u w h
    · exact fmt_big B u w hT (by omega) h1
  have HC := hideP hc
  clear hc hT
  generalize dS u = d at *
  go_enter Tryz.func49, Tryz.ntmps49
  go_wp2_with fail
  refine Calls.mono HC.out ?_
  rintro e w1 ⟨rfl, k1⟩
  go_wp2
  go_returns
  exact ⟨rfl, k1⟩

end Go.Proofs.YtbceacnadkhdoaaGreatDoor
