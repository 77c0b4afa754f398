/- What FnRequests draws: a number, a request, a body. What FnRequests draws: a body. -/
import Derived.Test.YtbceacnadkhdoaaGreatDoorV17
import Derived.Test.YtbceacnadkhdoaaGreatDoorV18
namespace Go.Proofs.YtbceacnadkhdoaaGreatDoor
open Go.RowKit
set_option linter.unusedVariables false
attribute [local go_sem high] sl_from sl_upto

theorem Src.newP (w W : World) (b : Nat) (a : Option Addr) (len cap : Nat) (f : Nat → Int) (T : TypeId) (hB : Bytes w w.heap.size a len f) (hl : len ≤ 1048576) (hW : Below w.heap.size w W) (hb : b = W.heap.size) :
    Src (W.alloc (.cells #[.slice a len cap, .int .i64 0] T)) w.heap.size b a len cap f 0 := by
  subst hb
  exact ⟨by simp, hW.size, by simp [go_sem], by simp [go_sem], by simp [go_sem], hB.stay (Nat.le_refl _) (Turn.of_below (b := w.heap.size) (hW.alloc hW.size _)) (Nat.le_refl _), hl⟩

set_option maxHeartbeats 800000 in
theorem drawArgs_any (w : World) (a : Option Addr) (len cap : Nat) (f : Nat → Int) (hB : Bytes w w.heap.size a len f) (hl : len ≤ 1048576) :
    Calls Tryz.prog 9 #[.slice a len cap] w fun e w' => ∃ k : Int, e = .returned (.int .i64 k) ∧ -1 ≤ k ∧ k ≤ 14 ∧ Below w.heap.size w w' := by
  have S0 := hideP (Src.newP w w w.heap.size a len cap f 73 hB hl (Below.refl _ _) rfl)
  clear hB
  go_enter Tryz.func9, Tryz.ntmps9
  go_wp2_with (first | (go_at_call 21; go_in))
  refine Calls.mono (next_any _ _ _ _ _ _ _ _ 16 S0.out (by omega) (by omega) (by omega) (by omega)) ?_
  rintro e w1 ⟨x, rfl, x0, x1, ht, hs⟩
  have K1 : Hid (Below w.heap.size w w1) := hideP (Turn.below ((Below.refl _ w).alloc (Nat.le_refl _) _) (Nat.le_refl _) (by simp) ht)
  clear ht hs S0
  go_wp2
  go_returns
  exact ⟨x - 1, rfl, by omega, by omega, K1.out⟩

/-- A request was drawn. -/
def PackQ (w : World) (e : Ending) (w' : World) : Prop :=
  ∃ (k : Int) (ao : Option Addr) (ca : Nat) (A : List Int) (bo : Option Addr) (cb : Nat) (D : List Int), e = .returned (.agg #[.int .i64 k, .slice ao A.length ca, .slice bo D.length cb]) ∧ 0 ≤ k ∧ k ≤ 14 ∧ A.length ≤ 8 ∧ D.length ≤ 25 ∧ (∀ x ∈ A, -1 ≤ x ∧ x ≤ 256) ∧ byts D ∧ Below w.heap.size w w' ∧ Row .i64 w' w.heap.size w'.heap.size ao A ∧ Row .u8 w' w.heap.size w'.heap.size bo D

set_option maxRecDepth 100000 in
set_option maxHeartbeats 1000000 in
theorem drawPack_any (w : World) (a : Option Addr) (len cap : Nat) (f : Nat → Int) (hB : Bytes w w.heap.size a len f) (hl : len ≤ 1048576) :
    Calls Tryz.prog 17 #[.slice a len cap] w (PackQ w) := by
  have hsz : Below w.heap.size w (w.alloc (.cells #[.int .i64 0, .slice none 0 0, .slice none 0 0] 27)) := (Below.refl _ _).alloc (Nat.le_refl _) _
  have S0 := hideP (Src.newP w _ (w.heap.size + 1) a len cap f 73 hB hl hsz (by simp))
  have K0 := hideP (hsz.alloc (by simp) (.cells #[.slice a len cap, .int .i64 0] 73))
  clear hB hsz
  go_enter Tryz.func17, Tryz.ntmps17
  go_wp2_with (first | (go_at_call 21; go_in))
  refine Calls.mono (bent3_any _ _ _ a len cap f 0 S0.out (by omega) (by omega)) ?_
  rintro e w1 ⟨k, ao, ca, A, bo, cb, D, u, rfl, k0, k1, hA, hD, hAb, hDb, T1, u0, u1, S1, OA, OD⟩
  have R1 : R3 w1 w.heap.size (.int .i64 0) (.slice none 0 0) (.slice none 0 0) := R3.turn ⟨by simp, by simp, by simp, by simp, by simp, by simp, by simp; omega⟩ T1 (by omega)
  have K1 := hideP (Turn.below K0.out (by omega) (by simp; omega) T1)
  have n1 := T1.size
  simp only [World.size_alloc] at n1
  have OA' := hideP OA
  have OD' := hideP OD
  have HAb := hideP hAb
  have HDb := hideP hDb
  clear T1 S1 OA OD hAb hDb S0 K0
  obtain ⟨a0, a1, a2, a3, a4, a5, a6⟩ := R1
  go_wp2
  have hb : w.heap.size < ((w.alloc (.cells #[.int .i64 0, .slice none 0 0, .slice none 0 0] 27)).alloc (.cells #[.slice a len cap, .int .i64 0] 73)).heap.size := by simp; omega
  refine bodyPost_ret (v := .agg #[.int .i64 k, .slice ao A.length ca, .slice bo D.length cb]) (by simp [results, Tryz.results17, go_sem, *]) rfl ⟨k, ao, ca, A, bo, cb, D, rfl, k0, k1, hA, hD, HAb.out, HDb.out, ?_, ?_, ?_⟩
  · exact ((K1.out.setCell (Nat.le_refl _) _).setCell (Nat.le_refl _) _).setCell (Nat.le_refl _) _
  · exact (((OA'.out.set ⟨w.heap.size, 0, none⟩ _ hb).set ⟨w.heap.size, 1, none⟩ _ hb).set ⟨w.heap.size, 2, none⟩ _ hb).wrt.row.wide (by omega) (Nat.le_refl _)
  · exact (((OD'.out.set ⟨w.heap.size, 0, none⟩ _ hb).set ⟨w.heap.size, 1, none⟩ _ hb).set ⟨w.heap.size, 2, none⟩ _ hb).wrt.row.wide (by omega) (Nat.le_refl _)

end Go.Proofs.YtbceacnadkhdoaaGreatDoor

namespace Go.Proofs.YtbceacnadkhdoaaGreatDoor
open Go.RowKit
set_option linter.unusedVariables false
attribute [local go_sem high] sl_from sl_upto

theorem bytsC {x : Int} {L : List Int} (h0 : 0 ≤ x) (h1 : x ≤ 255) (h : byts L) : byts (x :: L) := fun i hi => by
  cases i with
  | zero => exact ⟨h0, h1⟩
  | succ i => simpa using h i (by simpa using hi)
theorem bytsA {L M : List Int} (h : byts L) (k : byts M) : byts (L ++ M) := fun i hi => by
  by_cases e : i < L.length
  · rw [List.getElem_append_left e]; exact h i e
  · rw [List.getElem_append_right (by omega)]; exact k _ _
theorem bytsL {A : List Int} (h : A.all isB = true) : byts A := fun i hi => isB_yes (List.all_eq_true.1 h A[i] (List.getElem_mem _))
theorem bytsN : byts [] := fun i hi => by simp at hi
theorem Row.set0 {w : World} {lo hi g : Nat} {x y : Int} {T : List Int} (h : Row .u8 w lo hi (some ⟨g, 0, none⟩) (y :: T)) : Row .u8 (w.setCell ⟨g, 0, none⟩ (.int .u8 x)) lo hi (some ⟨g, 0, none⟩) (x :: T) := by
  rcases h with e | ⟨g', o', e, h1, h2, hc⟩
  · cases e
  · cases e
    refine .inr ⟨g, 0, rfl, h1, h2, fun i hi => ?_⟩
    cases i with
    | zero => exact cell_set_same (hc 0 (by simp))
    | succ i => rw [cell_set_other (by omega), hc (i + 1) (by simpa using hi)]; rfl
theorem OwnR.roomP {k : IntKind} {T : TypeId} {w : World} {base : Nat} {ao : Option Addr} {cap : Nat} {L : List Int} (h : OwnR k T w base ao cap L) : L.length ≤ cap := by
  rcases h.2 with ⟨hx, h0⟩ | ⟨g', cap', cur, hv, _, _, hnc, _⟩
  · injection hx with _ h1 h2; omega
  · cases hv; exact hnc

/-- A body was drawn. -/
def BodyQ (w : World) (e : Ending) (w' : World) : Prop :=
  ∃ (ao : Option Addr) (ca : Nat) (L : List Int), e = .returned (.slice ao L.length ca) ∧ byts L ∧ L.length ≤ 40 ∧ L.length ≤ ca ∧ Below w.heap.size w w' ∧ Row .u8 w' w.heap.size w'.heap.size ao L

set_option maxRecDepth 100000 in
set_option maxHeartbeats 4000000 in
theorem drawBody_any (w : World) (a : Option Addr) (len cap : Nat) (f : Nat → Int) (hB : Bytes w w.heap.size a len f) (hl : len ≤ 1048576) :
    Calls Tryz.prog 5 #[.slice a len cap] w (BodyQ w) := by
  have S0 := hideP (Src.newP w w w.heap.size a len cap f 73 hB hl (Below.refl _ _) rfl)
  have K0 : Hid (Below w.heap.size w (w.alloc (.cells #[.slice a len cap, .int .i64 0] 73))) := hideP ((Below.refl _ _).alloc (Nat.le_refl _) _)
  clear hB
  go_enter Tryz.func5, Tryz.ntmps5
  go_wp2_with (first | (go_at_call 21; go_in))
  have n0 : w.heap.size < (w.alloc (.cells #[.slice a len cap, .int .i64 0] 73)).heap.size := by simp
  generalize w.alloc (.cells #[.slice a len cap, .int .i64 0] 73) = w1 at *
  refine Calls.mono (draw3_any w1 _ _ a len cap f 0 0 S0.out (by omega) (by omega) (by omega) (by omega)) ?_
  rintro e w2 ⟨k, ao, ca, A, bo, cb, D, u, rfl, hF, hDB, T2, u0, u1, S2, RA, RD, -, -⟩
  obtain ⟨l1, l2, q1, q2, q3⟩ := rF_lens hF
  have n2 := T2.size
  have ka : Below w2.heap.size w2 (w2.alloc (.cells #[.int .i64 k, .slice ao A.length ca, .slice bo D.length cb] 27)) := (Below.refl _ _).alloc (Nat.le_refl _) _
  have BO := hideP (sBody_any _ w2.heap.size w2.heap.size k ao bo ca cb A D (w2.alloc (.cells #[.int .i64 k, .slice ao A.length ca, .slice bo D.length cb] 27)) ⟨by simp, by simp, by simp⟩ (RA.keep ka (Nat.le_refl _)) (RD.keep ka (Nat.le_refl _)) (by simp) (by simp) ⟨by omega, by omega⟩ q3 (by omega))
  have T3 := hideP (T2.trans (Turn.of_below (b := w.heap.size) ka))
  have S3 := hideP (S2.grow ka)
  have HT := hideP (bytsA (bytsL q3) hDB)
  have hbl : (bod k A D).length = A.length + D.length + 1 := bod_len _ _ _
  have hbd : bod k A D = k :: (A ++ D) := rfl
  have hAD : (A ++ D).length ≤ 31 := by simp; omega
  rw [hbd] at BO hbl
  generalize A ++ D = T at *
  clear T2 S2 RA RD hF hDB ka q3 S0 hbd
  go_wp2_with fail
  generalize w2.alloc (.cells #[.int .i64 k, .slice ao A.length ca, .slice bo D.length cb] 27) = w3 at *
  refine Calls.mono BO.out ?_
  rintro e w4 ⟨ap, cp, rfl, O4, k4⟩
  have T4 := hideP (T3.out.trans (Turn.of_below (b := w.heap.size) k4))
  have S4 := hideP (S3.out.grow k4)
  have O4' := hideP O4
  have n3 := T3.out.size
  clear O4 k4 T3 S3 BO hbl
  simp only [List.length_cons]
  have hTi : (T.length : Int) ≤ 31 := by omega
  go_wp2_with fail
  refine Calls.mono (next_any _ _ _ _ _ _ _ _ 5 S4.out (by omega) (by omega) (by omega) (by omega)) ?_
  rintro e w5 ⟨y, rfl, y0, y1, ht, hs⟩
  have T5 := hideP (T4.out.trans ht)
  have S5 := hideP hs
  have O5 := hideP (O4'.out.turn ht (by omega))
  have K5 := hideP (K0.out.trans ⟨T5.out.os, T5.out.tape, T5.out.output, T5.out.size, fun q hq => T5.out.block q (by omega) (by omega)⟩)
  clear ht hs T4 S4 O4'
  obtain ⟨g, c', hv, hgb, hgl⟩ := World.ownsRow.form O5.out (by simp)
  injection hv with hv1 _ hv2
  subst hv1
  subst c'
  have hroom := O5.out.roomP
  simp only [List.length_cons] at hroom
  have R5 : Hid (Row .u8 w5 w.heap.size w5.heap.size (some ⟨g, 0, none⟩) (k :: T)) := hideP (O5.out.wrt.row.wide (by omega) (Nat.le_refl _))
  by_cases e0 : y = 0
  · subst e0
    go_wp2_with fail
    refine Calls.mono (next_any _ _ _ _ _ _ _ _ 16 S5.out (by omega) (by omega) (by omega) (by omega)) ?_
    rintro e w6 ⟨x, rfl, x0, x1, ht, hs⟩
    have O6 := O5.out.turn ht (by omega)
    have z6 := ht.size
    have R6 : Row .u8 w6 w.heap.size w6.heap.size (some ⟨g, 0, none⟩) (k :: T) := O6.wrt.row.wide (by omega) (Nat.le_refl _)
    have K6 := hideP (K5.out.trans ⟨ht.os, ht.tape, ht.output, ht.size, fun q hq => ht.block q (by omega) (by omega)⟩)
    have R7 := hideP (Row.set0 (x := x) R6)
    have fz : ∀ c, w6.frozen? ⟨g, c, none⟩ = false := fun c => World.ownsRow.frozenAt O6 c
    have cl : w6.cell? ⟨g, 0, none⟩ = some (.int .u8 k) := by
      rcases R6 with e | ⟨g', o', e, _, _, hc⟩
      · cases e
      · cases e; exact hc 0 (by simp)
    have hxm : x % 256 = x := by omega
    have hT0 : (0 : Int) < (T.length : Int) + 1 := by omega
    clear ht hs O6 R6 T5 S5 O5 R5
    go_wp2
    go_returns
    exact ⟨_, cp, x :: T, rfl, bytsC x0 (by omega) HT.out, by simp; omega, by simpa using hroom, K6.out.setCell (by show w.heap.size ≤ g; omega) _, by simpa using R7.out⟩
  by_cases e1 : y = 1
  · subst e1
    go_wp2_with fail
    refine Calls.mono (next_any _ _ _ _ _ _ _ _ _ S5.out (by omega) (by omega) (by omega) (by omega)) ?_
    rintro e w6 ⟨x, rfl, x0, x1, ht, hs⟩
    obtain ⟨n, rfl⟩ : ∃ n : Nat, x = n := ⟨x.toNat, by omega⟩
    have O6 := O5.out.turn ht (by omega)
    have z6 := ht.size
    have R6 : Hid (Row .u8 w6 w.heap.size w6.heap.size (some ⟨g, 0, none⟩) ((k :: T).take n)) := hideP ((O6.wrt.row.wide (by omega) (Nat.le_refl _)).upto n)
    have K6 := hideP (K5.out.trans ⟨ht.os, ht.tape, ht.output, ht.size, fun q hq => ht.block q (by omega) (by omega)⟩)
    have hln : Hid (((k :: T).take n).length = n) := hideP (by simp; omega)
    have hnc : (n : Int) ≤ (cp : Int) := by omega
    have HB' := hideP (byts_take (bytsC (by omega) (by omega) HT.out : byts (k :: T)) n)
    clear ht hs O6 T5 S5 O5 R5
    go_wp2
    go_returns
    exact ⟨_, cp, (k :: T).take n, by rw [hln.out]; rfl, HB'.out, by rw [hln.out]; omega, by rw [hln.out]; omega, K6.out, R6.out⟩
  by_cases e2 : y = 2
  · subst e2
    go_wp2_with (first | (at_builtin; refine wpList_app (k := .u8) (T := 5) (S := 22) (bytes := 1) Tryz.underlying22 Tryz.infoB (by omega) rfl _ _ rfl w3.heap.size (some ⟨g, 0, none⟩) cp (k :: T) rfl (O5.out.alloc _) _ 1 [7] rfl (src_one .u8 w5 7 5) (by simp; omega) (by simp; omega) ?_; intro ao6 ca6 w6 O6 k6; refine Hid.out ?_) | go_in)
    have K6 := hideP (K5.out.trans ((Below.trans ((Below.refl w3.heap.size w5).alloc (by omega) _) k6).mono (by omega)))
    have O6' := hideP O6
    clear O6 k6 T5 S5 O5 R5
    refine hideP ?_
    go_wp2
    go_returns
    exact ⟨ao6, ca6, (k :: T) ++ [7], by simp, bytsA (bytsC (by omega) (by omega) HT.out) (bytsC (by omega) (by omega) bytsN), by simp; omega, O6'.out.roomP, K6.out, O6'.out.wrt.row.wide (by omega) (Nat.le_refl _)⟩
  · have d0 : (y == 0) = false := by simp [e0]
    have d1 : (y == 1) = false := by simp [e1]
    have d2 : (y == 2) = false := by simp [e2]
    go_wp2
    go_returns
    exact ⟨_, cp, k :: T, rfl, bytsC (by omega) (by omega) HT.out, by simp; omega, by simpa using hroom, K5.out, R5.out⟩

end Go.Proofs.YtbceacnadkhdoaaGreatDoor
