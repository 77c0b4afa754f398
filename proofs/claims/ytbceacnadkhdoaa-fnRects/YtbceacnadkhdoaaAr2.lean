/- AreaOf: the model's, at every list. -/
import Derived.Test.YtbceacnadkhdoaaLawR
import Derived.Deep.Cut
namespace Go.Proofs.Ytbceacnadkhdoaa
open Go.RowKit
set_option linter.unusedVariables false

theorem mul_bd {a b : Int} (h1 : 1 ≤ a) (h2 : a ≤ 20) (h3 : 1 ≤ b) (h4 : b ≤ 20) : 1 ≤ a * b ∧ a * b ≤ 400 := by
  have e1 : 1 * 1 ≤ a * b := Int.mul_le_mul h1 h3 (by omega) (by omega)
  have e2 : a * b ≤ 20 * 20 := Int.mul_le_mul h2 h4 (by omega) (by omega)
  omega

def areaL : List Rc → Int
  | [] => 0
  | r :: L => r.w * r.h + areaL L
theorem areaL_app (L M : List Rc) : areaL (L ++ M) = areaL L + areaL M := by
  induction L with
  | nil => simp [areaL]
  | cons r L ih => simp only [List.cons_append, areaL, ih]; omega
theorem areaL_take (L : List Rc) (k : Nat) (h : k < L.length) : areaL (L.take (k + 1)) = areaL (L.take k) + L[k].w * L[k].h := by
  rw [List.take_succ_eq_append_getElem h, areaL_app]
  simp [areaL]
theorem areaL_bd (L : List Rc) (hf : fltL L = false) (k : Nat) (h : k ≤ L.length) : 0 ≤ areaL (L.take k) ∧ areaL (L.take k) ≤ 400 * k := by
  induction k with
  | zero => simp [areaL]
  | succ k ih =>
    have hk : k < L.length := by omega
    have := ih (by omega)
    obtain ⟨_, _, h3, h4⟩ := rfB_no (fltL_at hf k hk)
    have := mul_bd h3.1 h3.2 h4.1 h4.2
    rw [areaL_take L k hk]
    omega

def areaV (L : List Rc) : Int := if manyC L = 0 then areaL L else 0

set_option maxHeartbeats 2000000 in
theorem sArea_any (lo hi : Nat) (ao : Option Addr) (ca : Nat) (L : List Rc) (w : World) (ha : Lst w lo hi ao L) (h1 : hi ≤ w.heap.size) (hl : L.length ≤ 1048576) :
    Calls Try.prog 20 #[.slice ao L.length ca] w fun e w' => e = .returned (.agg #[.int .i64 (manyC L), .int .i64 (areaV L)]) ∧ Below w.heap.size w w' := by
  have hl' : (L.length : Int) ≤ 1048576 := by omega
  have HA := hideP ha
  clear ha
  by_cases hm : manyC L = 0
  · obtain ⟨h40, hf⟩ := manyC_ok hm
    have h40' : (L.length : Int) ≤ 40 := by omega
    have HM := hideP hm
    have HF := hideP hf
    have HV := hideP (show areaV L = areaL L by unfold areaV; rw [if_pos hm])
    clear hm hf
    go_enter Try.func20, Try.ntmps20
    go_wp2_with fail
    refine Calls.mono (many_any lo hi ao ca L _ (HA.out.keep (B := w.heap.size) (by go_grown) h1) hl) ?_
    rintro e w1 ⟨rfl, rfl⟩
    rw [HM.out]
    go_wp2
    go_loopw [4, 5] (fun n i wr => ∃ k : Nat, k ≤ L.length ∧ i = .int .i64 k ∧ n = .int .i64 (areaL (L.take k)) ∧ Below (w.heap.size + 1) (w.alloc (.cells #[.int .i64 0, .int .i64 0] 35)) wr) (fun _ i _ => L.length - (intOf i).toNat)
    case atStart => exact ⟨0, Nat.zero_le _, rfl, rfl, Below.refl _ _⟩
    case round =>
      obtain ⟨k, hk, rfl, rfl, hbel⟩ := hrel
      have HB := hideP hbel
      have hbd := areaL_bd L HF.out k hk
      have hz := hbel.size
      simp only [World.size_alloc] at hz
      by_cases hlt : k < L.length
      · have hlt' : (k : Int) < (L.length : Int) := by omega
        have hne : L ≠ [] := fun e => by rw [e] at hlt; simp at hlt
        rcases HA.out with e | ⟨g, o, rfl, _, hg, hc⟩
        · exact absurd e hne
        obtain ⟨a0, a1, a2, a3⟩ := ((hc k hlt).keep (B := w.heap.size) (by go_grown) (by omega)).keep hbel (by omega)
        have hgl : g < wr.heap.size := by omega
        obtain ⟨_, _, q3, q4⟩ := rfB_no (fltL_at HF.out k hlt)
        have hmb := mul_bd q3.1 q3.2 q4.1 q4.2
        have HS := hideP (areaL_take L k hlt)
        clear hc HA hbel
        generalize L[k].x = x at *
        generalize L[k].y = y at *
        generalize L[k].w = ww at *
        generalize L[k].h = hh at *
        generalize areaL (L.take k) = n at *
        have e1 : IntKind.i64.wrap (ww * hh) = ww * hh := IntWalk.i64_in _ (by omega)
        have e2 : IntKind.i64.wrap (n + ww * hh) = n + ww * hh := IntWalk.i64_in _ (by omega)
        clear q3 q4 hmb hbd
        go_upto_region 8 with fail
        refine wp_region_kept (by kernel_rfl) (by kernel_rfl) ?_
        repeat (refine kept_step (by rfl) ?_; apply Exists.intro; refine ⟨fun w1 k1 => ?_, fun K hK => ?_⟩; (focus (have hc := Kept.cell k1; go_simp; first | done | rfl)); (go_simp; refine hK _ ?_; clear hK K))
        refine wpQuiet_nil ?_
        intro w5 k5
        replace k5 := Kept.below k5
        have hc5 := Kept.cell k5
        have hf5 := Kept.frozen k5
        have hz5 := k5.size
        try simp only [World.size_alloc] at hz5
        try simp only [World.size_setCell] at hz5
        try simp only [World.size_drew] at hz5
        try (first | have hs5 := sz12 hz5 | have hs5 := sz11 hz5 | have hs5 := sz10 hz5 | have hs5 := sz9 hz5 | have hs5 := sz8 hz5 | have hs5 := sz7 hz5 | have hs5 := sz6 hz5 | have hs5 := sz5 hz5 | have hs5 := sz4 hz5 | have hs5 := sz3 hz5 | have hs5 := sz2 hz5 | have hs5 := sz1 hz5)
        go_wp2
        go_roundw
        case rel => exact ⟨k + 1, by omega, by go_num, by rw [HS.out], HB.out.trans (k5.mono (by omega))⟩
        case measure => simp [intOf]; omega
      · obtain rfl : k = L.length := by omega
        have r0 : wr.cell? ⟨w.heap.size, 0, none⟩ = some (.int .i64 0) := by rw [hbel.cell (p := ⟨w.heap.size, 0, none⟩) (by first | (simp; done) | (simp; omega) | omega)]; simp [go_sem]
        have r1 : wr.cell? ⟨w.heap.size, 1, none⟩ = some (.int .i64 0) := by rw [hbel.cell (p := ⟨w.heap.size, 1, none⟩) (by first | (simp; done) | (simp; omega) | omega)]; simp [go_sem]
        have z0 : wr.frozen? ⟨w.heap.size, 0, none⟩ = false := by rw [hbel.frozen (p := ⟨w.heap.size, 0, none⟩) (by first | (simp; done) | (simp; omega) | omega)]; simp [go_sem]
        have z1 : wr.frozen? ⟨w.heap.size, 1, none⟩ = false := by rw [hbel.frozen (p := ⟨w.heap.size, 1, none⟩) (by first | (simp; done) | (simp; omega) | omega)]; simp [go_sem]
        have hlt2 : w.heap.size < wr.heap.size := by omega
        clear hbel
        go_wp2
        refine bodyPost_ret (v := .agg #[.int .i64 0, .int .i64 (areaL L)]) (by simp [results, Try.results20, go_sem, *]; done) rfl ⟨by rw [HM.out, HV.out], ?_⟩
        refine Below.setCell (Below.setCell ?_ (by first | (simp; done) | (simp; omega) | omega) _) (by first | (simp; done) | (simp; omega) | omega) _
        exact Below.trans (by go_grown) (HB.out.mono (by omega))
  · have HV := hideP (show areaV L = 0 by unfold areaV; rw [if_neg hm])
    obtain ⟨c, hc⟩ : ∃ c, manyC L = c := ⟨_, rfl⟩
    have hb : (c != 0) = true := by rw [← hc]; simpa using hm
    have HC := hideP hc
    clear hm hc
    go_enter Try.func20, Try.ntmps20
    go_wp2_with fail
    refine Calls.mono (many_any lo hi ao ca L _ (HA.out.keep (B := w.heap.size) (by go_grown) h1) hl) ?_
    rintro e w1 ⟨rfl, rfl⟩
    rw [HC.out]
    go_wp2
    refine bodyPost_ret (v := .agg #[.int .i64 c, .int .i64 0]) (by simp [results, Try.results20, go_sem, *]; done) rfl ⟨by rw [HC.out, HV.out], by go_grown⟩

end Go.Proofs.Ytbceacnadkhdoaa
