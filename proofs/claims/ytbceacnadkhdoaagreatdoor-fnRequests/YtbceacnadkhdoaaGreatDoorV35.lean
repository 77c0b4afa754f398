/- A word as a byte, by the program. -/
import Derived.Test.YtbceacnadkhdoaaGreatDoorV31
import Derived.Test.YtbceacnadkhdoaaGreatDoorV32
import Derived.Test.YtbceacnadkhdoaaGreatDoorV34
import Derived.Lib.AtoiErrMem
namespace Go.Proofs.YtbceacnadkhdoaaGreatDoor
open Go.RowKit
set_option linter.unusedVariables false

/-- What a variable of the library holds: an error, or nil. -/
def IsErr (w : World) (g : Nat) : Prop := ∃ ev, w.cell? ⟨g, 0, none⟩ = some ev ∧ (ev = .nilIface ∨ ∃ te pe, ev = .iface te pe)
theorem IsErr.keep {w w' : World} {g : Nat} (h : IsErr w g) (k : Below w.heap.size w w') : IsErr w' g := by
  obtain ⟨ev, h1, h2⟩ := h
  exact ⟨ev, (k.cell (p := ⟨g, 0, none⟩) (World.block_lt_of_cell? w _ h1)).trans h1, h2⟩

/-- The library's variables. -/
structure Env (w : World) : Prop where
  tens : Tens w.heap.size w
  most : ∃ m, w.cell? ⟨0, 0, none⟩ = some (.int .i64 m)
  syn : IsErr w 1
  rng : IsErr w 2
theorem Env.keep {w w' : World} (h : Env w) (k : Below w.heap.size w w') : Env w' := by
  refine ⟨(h.tens.keep k).up k.size, ?_, h.syn.keep k, h.rng.keep k⟩
  obtain ⟨m, hm⟩ := h.most
  exact ⟨m, (k.cell (p := ⟨_, 0, none⟩) (World.block_lt_of_cell? w _ hm)).trans hm⟩

/-- What reading a word leaves. -/
def RbAns (w : World) (l : List UInt8) (e : Ending) (w' : World) : Prop :=
  Below w.heap.size w w' ∧ ((∃ v : Nat, rb l = some v ∧ e = .returned (.tuple #[.int .u8 v, .bool true])) ∨ (rb l = none ∧ ∃ x : Int, e = .returned (.tuple #[.int .u8 x, .bool false])))
theorem rb_ok {l : List UInt8} {v : Nat} (h : Lib.parseUintB 8 l = .ok v) (hv : v ≤ 255) : rb l = if d3 v = l then some v else none := by
  unfold rb; rw [h]; simp only; rw [dec_d3 v (by omega)]

set_option maxHeartbeats 2000000 in
theorem rdb_ok (s : ByteArray) (u : Nat) (w : World) (E : Env w) (hm : s.size ≤ 1048576) (h : Lib.parseUintB 8 s.data.toList = .ok u) : Calls Tryz.prog 29 #[.string s] w (RbAns w s.data.toList) := by
  have hu := parseB_le h
  have hr := rb_ok h hu
  have CP := Any.strconv_ParseUint_10_at8_ok (P := Tryz.prog) Tryz.laysPu14 s (by omega) u h w
  have CP' : Calls Tryz.prog 48 #[.string s, .int .i64 10, .int .i64 8] w fun e w' => e = .returned (.tuple #[.int .u64 u, .nilIface]) ∧ Below w.heap.size w w' := CP.mono fun e w' ⟨he, hw⟩ => ⟨he, by
    rcases hw with rfl | rfl
    · exact Below.refl _ _
    · exact Lib.bytesWorld_below _ _ _⟩
  have HP := hideP CP'
  have HE := hideP E
  have HR := hideP hr
  have hds : ((dS u).toList == s.toList) = decide (d3 u = s.data.toList) := by
    rw [Bool.eq_iff_iff, beq_iff_eq, decide_eq_true_iff, ByteArray.toList_eq, ByteArray.toList_eq]
    exact Iff.rfl
  have hu' : (u : Int) ≤ 255 := by omega
  have hu0 : (0 : Int) ≤ (u : Int) := by omega
  obtain ⟨q, hq⟩ : ∃ q, decide (d3 u = s.data.toList) = q := ⟨_, rfl⟩
  rw [hq] at hds
  have HQ := hideP hq
  have CF := hideP (fun W (h : Env W) => fmt_any W.heap.size u W h.tens hu)
  clear CP CP' E hr h hq
  generalize dS u = d at *
  go_enter Tryz.func29, Tryz.ntmps29
  go_wp2_with fail
  refine Calls.mono HP.out ?_
  rintro e w1 ⟨rfl, k1⟩
  have K1 := hideP k1
  clear k1
  go_wp2_with fail
  refine Calls.mono (CF.out _ (HE.out.keep K1.out)) ?_
  rintro e w2 ⟨rfl, k2⟩
  have K2 := hideP (K1.out.trans (k2.mono K1.out.size))
  clear k2 CF HP HE
  go_wp2
  refine bodyPost_ret (v := .tuple #[.int .u8 u, .bool q]) (by simp [results, Tryz.results29, go_sem, *]) rfl ⟨K2.out, ?_⟩
  cases q with
  | true => exact .inl ⟨u, by rw [HR.out, if_pos (of_decide_eq_true HQ.out)], rfl⟩
  | false => exact .inr ⟨by rw [HR.out, if_neg (of_decide_eq_false HQ.out)], u, rfl⟩

set_option maxHeartbeats 2000000 in
theorem rdb_no (s : ByteArray) (x : Nat) (w : World) (hx : x ≤ 255) (hr : rb s.data.toList = none)
    (CP : Calls Tryz.prog 48 #[.string s, .int .i64 10, .int .i64 8] w fun e w' => ∃ T N, e = .returned (.tuple #[.int .u64 x, .iface T (.pointer (some ⟨N, 0, none⟩))]) ∧ Below w.heap.size w w') : Calls Tryz.prog 29 #[.string s] w (RbAns w s.data.toList) := by
  have HP := hideP CP
  have HR := hideP hr
  have hx' : (x : Int) ≤ 255 := by omega
  have hx0 : (0 : Int) ≤ (x : Int) := by omega
  clear CP hr
  go_enter Tryz.func29, Tryz.ntmps29
  go_wp2_with fail
  refine Calls.mono HP.out ?_
  rintro e w1 ⟨T, N, rfl, k1⟩
  have K1 := hideP k1
  clear k1 HP
  go_wp2
  refine bodyPost_ret (v := .tuple #[.int .u8 x, .bool false]) (by simp [results, Tryz.results29, go_sem, *]) rfl ⟨K1.out, .inr ⟨HR.out, x, rfl⟩⟩

/-- A word as a byte, by the program. -/
theorem rdb_any (s : ByteArray) (w : World) (E : Env w) (hm : s.size ≤ 1048576) : Calls Tryz.prog 29 #[.string s] w (RbAns w s.data.toList) := by
  cases h : Lib.parseUintB 8 s.data.toList with
  | ok u => exact rdb_ok s u w E hm h
  | «syntax» =>
    obtain ⟨ev, h1, h2⟩ := E.syn
    exact rdb_no s 0 w (by omega) (by unfold rb; rw [h]) ((Any.strconv_ParseUint_10_at8_syntax (P := Tryz.prog) Tryz.laysPu14 s (by omega) h ev w h1 h2).mono fun e w' ⟨N, he, _, _, hb⟩ => ⟨_, N, he, hb⟩)
  | range =>
    obtain ⟨ev, h1, h2⟩ := E.rng
    exact rdb_no s 255 w (by omega) (by unfold rb; rw [h]) ((Any.strconv_ParseUint_10_at8_range (P := Tryz.prog) Tryz.laysPu14 s (by omega) h ev w h1 h2).mono fun e w' ⟨N, he, _, _, hb⟩ => ⟨_, N, he, hb⟩)

end Go.Proofs.YtbceacnadkhdoaaGreatDoor
