/- Faults of windows: the mathematics, and the program's side. -/
import Derived.Test.YtejgcheddloffaaTr5
import Derived.Test.YtejgcheddloffaaTr8
import Derived.Test.YtejgcheddloffaaTr14
namespace Go.Proofs.Ytejgcheddloffaa
open Go.RowKit Go.Maps
set_option linter.unusedVariables false

/-- No rectangle of a window. -/
def wrB (x y p h : Int) : Bool := rfB x y p h || decide (8 < p ∨ 6 < h)
def byB (x : Int) : Bool := decide (0 ≤ x ∧ x ≤ 255)
/-- The fault of a window, of windows one by one, of a stack. -/
def winF (c : Wc) : Int := if wrB c.x c.y c.w c.h = true then 3 else if (c.L.length : Int) ≠ c.w * c.h then 2 else if c.L.all byB then 0 else 3
def wsF : List Wc → Int
  | [] => 0
  | c :: C => if winF c = 0 then wsF C else winF c
def stF (C : List Wc) : Int := if idsF (C.map Wc.i) = 0 then wsF C else idsF (C.map Wc.i)
theorem wsF_pre {X Y : List Wc} (h : wsF X = 0) : wsF (X ++ Y) = wsF Y := by
  induction X with
  | nil => rfl
  | cons t X ih =>
    simp only [List.cons_append, wsF] at h ⊢
    by_cases e : winF t = 0
    · rw [if_pos e] at h ⊢; exact ih h
    · rw [if_neg e] at h; exact absurd h e
theorem wsF_snoc {X : List Wc} {t : Wc} (h : wsF X = 0) (ht : winF t = 0) : wsF (X ++ [t]) = 0 := by rw [wsF_pre h, wsF, if_pos ht]; rfl
theorem wsF_bad {X Y : List Wc} {t : Wc} (h : wsF X = 0) (ht : winF t ≠ 0) : wsF (X ++ t :: Y) = winF t := by rw [wsF_pre h, wsF, if_neg ht]
theorem wsF_mem {C : List Wc} (h : wsF C = 0) : ∀ t ∈ C, winF t = 0 := by
  induction C with
  | nil => intro t m; simp at m
  | cons s C ih =>
    intro t m
    rw [wsF] at h
    by_cases e : winF s = 0
    · rw [if_pos e] at h
      rcases List.mem_cons.1 m with rfl | m
      · exact e
      · exact ih h t m
    · rw [if_neg e] at h; exact absurd h e
theorem wsF_all {C : List Wc} (h : ∀ t ∈ C, winF t = 0) : wsF C = 0 := by
  induction C with
  | nil => rfl
  | cons s C ih => rw [wsF, if_pos (h s (by simp))]; exact ih fun t m => h t (by simp [m])
theorem stF_ids {C : List Wc} (h : ¬ idsF (C.map Wc.i) = 0) : stF C = idsF (C.map Wc.i) := by unfold stF; rw [if_neg h]
theorem stF_ws {C : List Wc} (h : idsF (C.map Wc.i) = 0) : stF C = wsF C := by unfold stF; rw [if_pos h]
theorem stF_ok {C : List Wc} (h : stF C = 0) : idsF (C.map Wc.i) = 0 ∧ wsF C = 0 := by
  by_cases e : idsF (C.map Wc.i) = 0
  · rw [stF_ws e] at h; exact ⟨e, h⟩
  · rw [stF_ids e] at h; exact absurd h e
theorem winF_rect {c : Wc} (h : wrB c.x c.y c.w c.h = true) : winF c = 3 := by unfold winF; rw [if_pos h]
theorem winF_many {c : Wc} (h : wrB c.x c.y c.w c.h = false) (h2 : (c.L.length : Int) ≠ c.w * c.h) : winF c = 2 := by unfold winF; rw [if_neg (by rw [h]; simp), if_pos h2]
theorem winF_byte {c : Wc} (h : wrB c.x c.y c.w c.h = false) (h2 : (c.L.length : Int) = c.w * c.h) (h3 : c.L.all byB = false) : winF c = 3 := by unfold winF; rw [if_neg (by rw [h]; simp), if_neg (by simpa using h2), if_neg (by rw [h3]; simp)]
theorem winF_ok {c : Wc} (h : wrB c.x c.y c.w c.h = false) (h2 : (c.L.length : Int) = c.w * c.h) (h3 : c.L.all byB = true) : winF c = 0 := by unfold winF; rw [if_neg (by rw [h]; simp), if_neg (by simpa using h2), if_pos h3]
theorem winF_no {c : Wc} (h : winF c = 0) : wrB c.x c.y c.w c.h = false ∧ (c.L.length : Int) = c.w * c.h ∧ c.L.all byB = true := by
  unfold winF at h
  cases h1 : wrB c.x c.y c.w c.h
  · rw [h1, if_neg (by simp)] at h
    by_cases h2 : (c.L.length : Int) = c.w * c.h
    · rw [if_neg (by simpa using h2)] at h
      cases h3 : c.L.all byB
      · rw [h3] at h; simp at h
      · exact ⟨rfl, h2, rfl⟩
    · rw [if_pos h2] at h; simp at h
  · rw [h1] at h; simp at h
theorem wrB_no {x y p h : Int} (e : wrB x y p h = false) : (-20 ≤ x ∧ x ≤ 20) ∧ (-20 ≤ y ∧ y ≤ 20) ∧ (1 ≤ p ∧ p ≤ 8) ∧ (1 ≤ h ∧ h ≤ 6) ∧ rfB x y p h = false := by
  unfold wrB at e
  simp only [Bool.or_eq_false_iff, decide_eq_false_iff_not] at e
  have := rfB_no e.1
  refine ⟨this.1, this.2.1, by omega, by omega, e.1⟩
theorem area_le {p h : Int} (h1 : 1 ≤ p ∧ p ≤ 8) (h2 : 1 ≤ h ∧ h ≤ 6) : 0 ≤ p * h ∧ p * h ≤ 48 := by
  have hp : p = 1 ∨ p = 2 ∨ p = 3 ∨ p = 4 ∨ p = 5 ∨ p = 6 ∨ p = 7 ∨ p = 8 := by omega
  rcases hp with rfl | rfl | rfl | rfl | rfl | rfl | rfl | rfl <;> omega
theorem byB_no {x : Int} (h : byB x = false) : x < 0 ∨ 255 < x := by unfold byB at h; simp at h; omega
theorem byB_yes {x : Int} (h : byB x = true) : 0 ≤ x ∧ x ≤ 255 := by unfold byB at h; simpa using h
theorem all_snocW {D : List Int} {j : Nat} (hj : j < D.length) (h : (D.take j).all byB = true) (hx : byB D[j] = true) : (D.take (j + 1)).all byB = true := by
  rw [take_snoc hj, List.all_append, h]; simp [hx]
theorem all_badW {D : List Int} {j : Nat} (hj : j < D.length) (hx : byB D[j] = false) : D.all byB = false := by
  rw [Bool.eq_false_iff]
  intro e
  have := List.all_eq_true.1 e D[j] (List.getElem_mem hj)
  rw [hx] at this; cases this

set_option maxHeartbeats 400000 in
theorem byte7_any (x : Int) (w : World) : Calls Try.prog 63 #[.int .i64 x] w fun e w' => e = .returned (.bool (byB x)) ∧ w' = w := by
  cases hb : byB x
  · rcases byB_no hb with hx | hx
    · have hx0 : ¬ 0 ≤ x := by omega
      clear hb
      go_enter Try.func63, Try.ntmps63
      go_wp2
      go_returns
      exact ⟨congrArg (fun b => Ending.returned (.bool b)) (by first | rfl | (simp; omega)), rfl⟩
    · have hx0 : 0 ≤ x := by omega
      have hx1 : ¬ x ≤ 255 := by omega
      clear hb
      go_enter Try.func63, Try.ntmps63
      go_wp2
      go_returns
      exact ⟨congrArg (fun b => Ending.returned (.bool b)) (by first | rfl | (simp; omega)), rfl⟩
  · obtain ⟨hx0, hx1⟩ := byB_yes hb
    clear hb
    go_enter Try.func63, Try.ntmps63
    go_wp2
    go_returns
    exact ⟨congrArg (fun b => Ending.returned (.bool b)) (by first | rfl | (simp; omega)), rfl⟩

theorem OwnR.capV {k : IntKind} {T : TypeId} {w : World} {base : Nat} {ao : Option Addr} {cap : Nat} {L : List Int} (h : OwnR k T w base ao cap L) : L.length ≤ cap := by
  rcases h.2 with ⟨_, h0⟩ | ⟨g, cap', cur, hv, _, _, hc, _⟩
  · omega
  · cases hv; exact hc

set_option maxRecDepth 100000 in
set_option maxHeartbeats 1000000 in
theorem idsIn_any (lo hi : Nat) (so : Option Addr) (sc : Nat) (L : List Wn) (w : World) (hL : Ws w lo hi so L) (hs : hi ≤ w.heap.size) (hn : L.length ≤ 1048576) :
    Calls Try.prog 25 #[.slice so L.length sc] w fun e w' => ∃ ao cap, e = .returned (.slice ao (L.map Wn.i).length cap) ∧ OwnR .i64 2 w' w.heap.size ao cap (L.map Wn.i) ∧ Below w.heap.size w w' := by
  have hn' : (L.length : Int) ≤ 1048576 := by omega
  have HL := hideP hL
  clear hL
  go_enter Try.func25, Try.ntmps25
  go_wp2
  go_loopw [3, 8] (fun v i wr => ∃ X Y : List Wn, X ++ Y = L ∧ i = .int .i64 (X.length : Nat) ∧ Below w.heap.size w wr ∧ ∃ ao cap, v = .slice ao (X.map Wn.i).length cap ∧ OwnR .i64 2 wr w.heap.size ao cap (X.map Wn.i)) (fun _ i _ => L.length - (intOf i).toNat)
  case atStart => exact ⟨[], L, rfl, rfl, Below.refl _ _, none, 0, rfl, OwnR.nil _ _ _ _⟩
  case round =>
    obtain ⟨X, Y, hXY, rfl, kb, ao, cap, rfl, O⟩ := hrel
    have hlen : X.length + Y.length = L.length := by rw [← hXY]; simp
    have hz := kb.size
    have HO := hideP O
    clear O
    cases Y with
    | cons r Y =>
      have hlt : (X.length : Int) < (L.length : Int) := by simp at hlen; omega
      have h0 := HL.out
      rw [← hXY] at h0
      obtain ⟨g, o, rfl, hg, hc, _⟩ := Ws.at h0
      obtain ⟨a0, a1, a2, a3, a4, a5, a6⟩ := (hc.keep kb (by omega)).seven
      have hgl : g < wr.heap.size := by omega
      have HB := hideP kb
      have HXY := hideP hXY
      have hXn : (X.map Wn.i).length ≤ 1048576 := by simp; omega
      have HXI : Hid ((X ++ [r]).map Wn.i = X.map Wn.i ++ [r.i]) := hideP (by simp)
      clear h0 hc kb hXY hlen HL
      obtain ⟨ri, rx, ry, rp, rh, rm, ⟨bo, cb, gb, D⟩⟩ := r
      simp only at a0 a1 a2 a3 a4 a5 a6 HXI
      generalize X.map Wn.i = XI at *
      go_wp2_with (first | (at_builtin; refine wpList_app (k := .i64) (T := 2) (S := 36) (bytes := 8) Try.underlying36 Try.infoI5 (by omega) rfl _ _ rfl w.heap.size ao cap XI rfl ((HO.out.alloc _).alloc _) _ 1 [ri] rfl (by have h := src_one .i64 (wr.alloc (.cells #[.int .i64 ri, .int .i64 rx, .int .i64 ry, .int .i64 rp, .int .i64 rh, .bool rm, .slice bo D.length cb] 38)) ri 2; rw [World.size_alloc] at h; exact h) (by simp; omega) (by simp; omega) ?_; intro ao8 ca8 w8 O8 K8) | go_in)
      go_roundw
      case rel =>
        refine ⟨X ++ [⟨ri, rx, ry, rp, rh, rm, ⟨bo, cb, gb, D⟩⟩], Y, midW HXY.out, by simp, ?_, ao8, ca8, by rw [HXI.out]; simp, by rw [HXI.out]; exact O8⟩
        exact HB.out.trans (Below.trans (by go_grown : Below w.heap.size wr _) K8)
      case measure => simp [intOf]; omega
    | nil =>
      have hX : X = L := by simpa using hXY
      subst hX
      have HB := hideP kb
      clear kb hXY HL
      go_wp2
      go_returns
      exact ⟨ao, cap, rfl, HO.out, HB.out⟩

set_option maxHeartbeats 400000 in
theorem area_ok (x y p h : Int) (w : World) (e : wrB x y p h = false) :
    Calls Try.prog 23 #[.agg #[.int .i64 x, .int .i64 y, .int .i64 p, .int .i64 h]] w fun e w' => e = .returned (.int .i64 0) ∧ Below w.heap.size w w' := by
  obtain ⟨_, _, ⟨h1, h2⟩, ⟨h3, h4⟩, hr⟩ := wrB_no e
  have RF := fun w => rf_any x y p h w
  rw [hr] at RF
  have RF' := hideP RF
  clear e RF hr
  go_enter Try.func23, Try.ntmps23
  go_wp2_with fail
  refine Calls.mono (RF'.out _) ?_
  rintro e w1 ⟨rfl, k1⟩
  have K1 : Hid (Below w.heap.size w w1) := hideP (Below.trans (by go_grown) (k1.mono (by simp)))
  have c2 : w1.cell? ⟨w.heap.size, 2, none⟩ = some (.int .i64 p) := (k1.cell (p := ⟨w.heap.size, 2, none⟩) (by simp)).trans (by simp)
  have c3 : w1.cell? ⟨w.heap.size, 3, none⟩ = some (.int .i64 h) := (k1.cell (p := ⟨w.heap.size, 3, none⟩) (by simp)).trans (by simp)
  have n1 : w.heap.size < w1.heap.size := by have := k1.size; simp at this; omega
  clear k1
  unfold rfOf
  go_wp2
  go_returns
  exact ⟨rfl, K1.out⟩

set_option maxHeartbeats 800000 in
theorem area_no (x y p h : Int) (w : World) (e : wrB x y p h = true) :
    Calls Try.prog 23 #[.agg #[.int .i64 x, .int .i64 y, .int .i64 p, .int .i64 h]] w fun e w' => e = .returned (.int .i64 3) ∧ Below w.heap.size w w' := by
  have RF := fun w => rf_any x y p h w
  cases hr : rfB x y p h
  · have hd : 8 < p ∨ (¬ 8 < p ∧ 6 < h) := by
      unfold wrB at e; rw [hr] at e; simp at e; omega
    rw [hr] at RF
    have RF' := hideP RF
    clear e RF hr
    rcases hd with h1 | ⟨h1, h2⟩
    all_goals
      go_enter Try.func23, Try.ntmps23
      go_wp2_with fail
      refine Calls.mono (RF'.out _) ?_
      rintro e w1 ⟨rfl, k1⟩
      have K1 : Hid (Below w.heap.size w w1) := hideP (Below.trans (by go_grown) (k1.mono (by simp)))
      have c2 : w1.cell? ⟨w.heap.size, 2, none⟩ = some (.int .i64 p) := (k1.cell (p := ⟨w.heap.size, 2, none⟩) (by simp)).trans (by simp)
      have c3 : w1.cell? ⟨w.heap.size, 3, none⟩ = some (.int .i64 h) := (k1.cell (p := ⟨w.heap.size, 3, none⟩) (by simp)).trans (by simp)
      have n1 : w.heap.size < w1.heap.size := by have := k1.size; simp at this; omega
      clear k1
      unfold rfOf
      go_wp2
      go_returns
      exact ⟨rfl, K1.out⟩
  · rw [hr] at RF
    have RF' := hideP RF
    clear e RF hr
    go_enter Try.func23, Try.ntmps23
    go_wp2_with fail
    refine Calls.mono (RF'.out _) ?_
    rintro e w1 ⟨rfl, k1⟩
    have K1 : Hid (Below w.heap.size w w1) := hideP (Below.trans (by go_grown) (k1.mono (by simp)))
    clear k1
    unfold rfOf
    go_wp2
    go_returns
    exact ⟨rfl, K1.out⟩
theorem area_any (x y p h : Int) (w : World) :
    Calls Try.prog 23 #[.agg #[.int .i64 x, .int .i64 y, .int .i64 p, .int .i64 h]] w fun e w' => e = .returned (.int .i64 (rfOf (wrB x y p h))) ∧ Below w.heap.size w w' := by
  cases e : wrB x y p h
  · exact area_ok x y p h w e
  · exact area_no x y p h w e

set_option maxHeartbeats 400000 in
theorem count_any (x y p h : Int) (w : World) (h1 : 1 ≤ p ∧ p ≤ 8) (h2 : 1 ≤ h ∧ h ≤ 6) :
    Calls Try.prog 26 #[.agg #[.int .i64 x, .int .i64 y, .int .i64 p, .int .i64 h]] w fun e w' => e = .returned (.int .i64 (p * h)) ∧ Below w.heap.size w w' := by
  obtain ⟨g1, g2⟩ := area_le h1 h2
  obtain ⟨q, hq⟩ : ∃ q, p * h = q := ⟨_, rfl⟩
  have hw : IntKind.i64.wrap (p * h) = q := by rw [hq]; exact IntWalk.i64_in _ (by omega)
  rw [hq] at g1 g2
  rw [hq]
  have HQ := hideP hq
  clear hq
  go_enter Try.func26, Try.ntmps26
  go_wp2
  go_returns
  exact ⟨rfl, by go_grown⟩
end Go.Proofs.Ytejgcheddloffaa
