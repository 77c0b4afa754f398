/- Lists of requests, marked; a request within a list, packed by the model. -/
import Derived.Test.YtbceacnadkhdoacJo1
namespace Go.Proofs.Ytbceacnadkhdoac
open Go.RowKit
set_option linter.unusedVariables false

theorem IsReq.far {w w' : World} {b o lo hi : Nat} {k : Int} {va vd : Value} (h : IsReq w b o k va vd) (f : Far lo hi w w') (hb : b < w.heap.size) (hd : b < lo ∨ hi ≤ b) : IsReq w' b o k va vd :=
  ⟨(f.cell b o hb hd).trans h.c0, (f.cell b (o + 1) hb hd).trans h.c1, (f.cell b (o + 2) hb hd).trans h.c2⟩

set_option maxHeartbeats 2000000 in
theorem markRS_any (g hi : Nat) (sc : Nat) (M : List Rq) (w : World) (O : OwnQ w g hi M) (hn : M.length + szs M ≤ 1048576) :
    Calls Try.prog 10 #[.slice (some ⟨g, 0, none⟩) M.length sc, .int .i64 1] w fun e w' => e = .returned (.int .i64 (1 + (M.length : Int) + (szs M : Int))) ∧ Far g hi w w' := by
  have hn' : (M.length : Int) ≤ 1048576 := by omega
  have hle := O.sp.le
  have HF0 := hideP O.free
  have HS0 := hideP O.sp
  have HC0 := hideP O.cells
  clear O
  go_enter Try.func10, Try.ntmps10
  go_wp2
  go_loopw [1, 5] (fun q i wr => ∃ (X Y : List Rq) (m : Nat), X ++ Y = M ∧ i = .int .i64 (X.length : Nat) ∧ q = .int .i64 (1 + (X.length : Int) + (szs X : Int)) ∧ g + 1 ≤ m ∧ Far g hi w wr ∧ Sp wr m hi Y ∧ (∀ i (h : i < M.length), X.length ≤ i → M[i].cells wr g (i * 3)) ∧ ∀ c, wr.frozen? ⟨g, c, none⟩ = false) (fun _ i _ => M.length - (intOf i).toNat)
  case atStart => exact ⟨[], M, g + 1, rfl, rfl, by simp [szs], Nat.le_refl _, Far.refl _ _ _, HS0.out, fun i h _ => HC0.out i h, HF0.out⟩
  case round =>
    obtain ⟨X, Y, m, hXY, rfl, rfl, hm, f, S, C, Fz⟩ := hrel
    have hlen : X.length + Y.length = M.length := by rw [← hXY]; simp
    have htot : szs X + szs Y = szs M := by rw [← hXY, szs_app]
    have hz := f.size
    cases Y with
    | cons r Y =>
      have hlt : (X.length : Int) < (M.length : Int) := by simp at hlen; omega
      have hlt' : X.length < M.length := by omega
      have hget : M[X.length] = r := by simp [← hXY]
      have c0 := C X.length hlt' (Nat.le_refl _)
      rw [hget] at c0
      obtain ⟨mid, m2, R, S2⟩ := S
      have hsr : szs (X ++ [r]) = szs X + r.A.length + r.D.length := by rw [szs_app]; simp only [szs, Rq.sz]; omega
      have hsL : szs X + r.A.length + r.D.length ≤ szs M := by rw [← htot]; simp only [szs, Rq.sz]; omega
      have hR1 := R.lm
      have hR2 := R.mh
      have hS2 := S2.le
      have HF := hideP f
      have HR := hideP R
      have HS := hideP S2
      have HC := hideP (fun i h (hx : X.length < i) => C i h (Nat.le_of_lt hx))
      have HFz := hideP Fz
      have HXY := hideP hXY
      have HSR := hideP hsr
      clear f R S2 C hXY hsr hget htot HF0 HS0 HC0
      obtain ⟨k, ao, ca, A, bo, cb, D⟩ := r
      obtain ⟨a0, a1, a2⟩ := c0
      simp only at a0 a1 a2 hsL HSR HR
      have hgl : g < wr.heap.size := by omega
      have FA : Hid (Far g (g + 1) wr (wr.setCell ⟨g, X.length * 3, none⟩ (.int .i64 (1 + (X.length : Int) + (szs X : Int))))) := hideP ((Far.refl g (g + 1) wr).setCell (p := ⟨g, _, none⟩) (Nat.le_refl _) (by show g < g + 1; omega) _)
      have e1 := (cell_set_other (w := wr) (g := g) (c := X.length * 3) (d := X.length * 3 + 1) (v := .int .i64 (1 + (X.length : Int) + (szs X : Int))) (by omega)).trans a1
      have e2 := (cell_set_other (w := wr) (g := g) (c := X.length * 3) (d := X.length * 3 + 2) (v := .int .i64 (1 + (X.length : Int) + (szs X : Int))) (by omega)).trans a2
      have HC1 := hideP (show ∀ i (h : i < M.length), X.length < i → M[i].cells (wr.setCell ⟨g, X.length * 3, none⟩ (.int .i64 (1 + (X.length : Int) + (szs X : Int)))) g (i * 3) from fun i h hx => by
        obtain ⟨d0, d1, d2⟩ := HC.out i h hx
        exact ⟨(cell_set_other (by omega)).trans d0, (cell_set_other (by omega)).trans d1, (cell_set_other (by omega)).trans d2⟩)
      have hX1 : (X.length : Int) ≤ 1048576 := by omega
      have hX2 : (szs X : Int) ≤ 1048576 := by omega
      have hX3 : (X.length : Int) + (szs X : Int) ≤ 1048576 := by omega
      go_wp2_with fail
      clear a0 a1 a2
      have HFz1 : Hid (∀ c, (wr.setCell ⟨g, X.length * 3, none⟩ (.int .i64 (1 + (X.length : Int) + (szs X : Int)))).frozen? ⟨g, c, none⟩ = false) := hideP (fun c => by simpa using HFz.out c)
      have hz1 : wr.heap.size ≤ (wr.setCell ⟨g, X.length * 3, none⟩ (.int .i64 (1 + (X.length : Int) + (szs X : Int)))).heap.size := by simp
      clear HFz HC
      generalize wr.setCell ⟨g, X.length * 3, none⟩ (.int .i64 (1 + (X.length : Int) + (szs X : Int))) = w1 at *
      have HR1 := hideP (HR.out.far FA.out (.inr hm))
      have HS1 := hideP (HS.out.far FA.out (by omega))
      refine Calls.mono (markI_any m mid ao ca _ A w1 HR1.out.args (by have := HR1.out.hs; omega) (by omega) (by omega) (by omega)) ?_
      rintro e w2 ⟨rfl, f2, _⟩
      have F2 := hideP f2
      have b2 := (f2.cell g (X.length * 3 + 2) (by omega) (by omega)).trans e2
      have HR2 := hideP (HR1.out.data.far f2 (by omega) HR1.out.hs)
      have HS2 := hideP (HS1.out.far f2 (by omega))
      have HC2 := hideP (fun i h hx => IsReq.far (HC1.out i h hx) f2 (by omega) (by omega))
      have HFz2 := hideP (fun c => (f2.frozen g c (by omega) (by omega)).trans (HFz1.out c))
      have hz2 := f2.size
      have hh1 := HR1.out.hs
      clear f2 HR1 HS1 HC1 HFz1 e1 e2
      go_wp2_with fail
      refine Calls.mono (markB_any mid m2 bo cb _ D w2 HR2.out (by omega) (by omega) (by omega) (by omega)) ?_
      rintro e w3 ⟨rfl, f3, _⟩
      have F3 : Hid (Far g hi w w3) := hideP (HF.out.trans ((FA.out.wide (Nat.le_refl _) (by omega)).trans ((F2.out.wide (by omega) (by omega)).trans (f3.wide (by omega) (by omega)))))
      have HS3 := hideP (HS2.out.far f3 (by omega))
      have HC3 := hideP (fun i h hx => IsReq.far (HC2.out i h hx) f3 (by omega) (by omega))
      have HFz3 := hideP (fun c => (f3.frozen g c (by omega) (by omega)).trans (HFz2.out c))
      clear f3 F2 HR2 HS2 HC2 HFz2
      go_wp2
      go_roundw
      case rel => exact ⟨X ++ [⟨k, ao, ca, A, bo, cb, D⟩], Y, m2, mid_in HXY.out, by simp, by rw [HSR.out]; simp; go_num, by omega, F3.out, HS3.out, fun i h hx => HC3.out i h (by simp at hx; omega), HFz3.out⟩
      case measure => simp [intOf]; omega
    | nil =>
      have hX : X = M := by simpa using hXY
      subst hX
      have F' := hideP f
      clear f S C Fz hXY HF0 HS0 HC0
      go_wp2
      go_returns
      exact ⟨rfl, F'.out⟩
end Go.Proofs.Ytbceacnadkhdoac
