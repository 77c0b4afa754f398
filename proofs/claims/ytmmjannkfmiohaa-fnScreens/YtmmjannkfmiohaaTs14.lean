/- Faults of windows: the mathematics, and the program's side. Faults of windows and of stacks: the program's side. -/
import Derived.Test.YtmmjannkfmiohaaTs6
import Derived.Test.YtmmjannkfmiohaaTs9
import Derived.Test.YtmmjannkfmiohaaTs13
namespace Go.Proofs.Ytmmjannkfmiohaa
open Go.RowKit Go.Maps
set_option linter.unusedVariables false

/-- No rectangle of a window. -/
def wrB (x y p h : Int) : Bool := rfB x y p h || decide (8 < p ∨ 6 < h)
def byB (x : Int) : Bool := decide (0 ≤ x ∧ x ≤ 255)
/-- The fault of a window, of windows one by one, of a stack. -/
def winF (c : Wc) : Int := if wrB c.x c.y c.w c.h = true then 3 else if (c.L.length : Int) ≠ c.w * c.h then 2 else if c.L.all byB then 0 else 3
def wsF : List Wc → Int
  | [] => 0
  | c :: C => if winF c = 0 then wsF C else winF c
def stF (C : List Wc) : Int := if idsF (C.map Wc.i) = 0 then wsF C else idsF (C.map Wc.i)
theorem wsF_pre {X Y : List Wc} (h : wsF X = 0) : wsF (X ++ Y) = wsF Y := by
  induction X with
  | nil => rfl
  | cons t X ih =>
    simp only [List.cons_append, wsF] at h ⊢
    by_cases e : winF t = 0
    · rw [if_pos e] at h ⊢; exact ih h
    · rw [if_neg e] at h; exact absurd h e
theorem wsF_snoc {X : List Wc} {t : Wc} (h : wsF X = 0) (ht : winF t = 0) : wsF (X ++ [t]) = 0 := by rw [wsF_pre h, wsF, if_pos ht]; rfl
theorem wsF_bad {X Y : List Wc} {t : Wc} (h : wsF X = 0) (ht : winF t ≠ 0) : wsF (X ++ t :: Y) = winF t := by rw [wsF_pre h, wsF, if_neg ht]
theorem wsF_mem {C : List Wc} (h : wsF C = 0) : ∀ t ∈ C, winF t = 0 := by
  induction C with
  | nil => intro t m; simp at m
  | cons s C ih =>
    intro t m
    rw [wsF] at h
    by_cases e : winF s = 0
    · rw [if_pos e] at h
      rcases List.mem_cons.1 m with rfl | m
      · exact e
      · exact ih h t m
    · rw [if_neg e] at h; exact absurd h e
theorem wsF_all {C : List Wc} (h : ∀ t ∈ C, winF t = 0) : wsF C = 0 := by
  induction C with
  | nil => rfl
  | cons s C ih => rw [wsF, if_pos (h s (by simp))]; exact ih fun t m => h t (by simp [m])
theorem stF_ids {C : List Wc} (h : ¬ idsF (C.map Wc.i) = 0) : stF C = idsF (C.map Wc.i) := by unfold stF; rw [if_neg h]
theorem stF_ws {C : List Wc} (h : idsF (C.map Wc.i) = 0) : stF C = wsF C := by unfold stF; rw [if_pos h]
theorem stF_ok {C : List Wc} (h : stF C = 0) : idsF (C.map Wc.i) = 0 ∧ wsF C = 0 := by
  by_cases e : idsF (C.map Wc.i) = 0
  · rw [stF_ws e] at h; exact ⟨e, h⟩
  · rw [stF_ids e] at h; exact absurd h e
theorem winF_rect {c : Wc} (h : wrB c.x c.y c.w c.h = true) : winF c = 3 := by unfold winF; rw [if_pos h]
theorem winF_many {c : Wc} (h : wrB c.x c.y c.w c.h = false) (h2 : (c.L.length : Int) ≠ c.w * c.h) : winF c = 2 := by unfold winF; rw [if_neg (by rw [h]; simp), if_pos h2]
theorem winF_byte {c : Wc} (h : wrB c.x c.y c.w c.h = false) (h2 : (c.L.length : Int) = c.w * c.h) (h3 : c.L.all byB = false) : winF c = 3 := by unfold winF; rw [if_neg (by rw [h]; simp), if_neg (by simpa using h2), if_neg (by rw [h3]; simp)]
theorem winF_ok {c : Wc} (h : wrB c.x c.y c.w c.h = false) (h2 : (c.L.length : Int) = c.w * c.h) (h3 : c.L.all byB = true) : winF c = 0 := by unfold winF; rw [if_neg (by rw [h]; simp), if_neg (by simpa using h2), if_pos h3]
theorem winF_no {c : Wc} (h : winF c = 0) : wrB c.x c.y c.w c.h = false ∧ (c.L.length : Int) = c.w * c.h ∧ c.L.all byB = true := by
  unfold winF at h
  cases h1 : wrB c.x c.y c.w c.h
  · rw [h1, if_neg (by simp)] at h
    by_cases h2 : (c.L.length : Int) = c.w * c.h
    · rw [if_neg (by simpa using h2)] at h
      cases h3 : c.L.all byB
      · rw [h3] at h; simp at h
      · exact ⟨rfl, h2, rfl⟩
    · rw [if_pos h2] at h; simp at h
  · rw [h1] at h; simp at h
theorem wrB_no {x y p h : Int} (e : wrB x y p h = false) : (-20 ≤ x ∧ x ≤ 20) ∧ (-20 ≤ y ∧ y ≤ 20) ∧ (1 ≤ p ∧ p ≤ 8) ∧ (1 ≤ h ∧ h ≤ 6) ∧ rfB x y p h = false := by
  unfold wrB at e
  simp only [Bool.or_eq_false_iff, decide_eq_false_iff_not] at e
  have := rfB_no e.1
  refine ⟨this.1, this.2.1, by omega, by omega, e.1⟩
theorem area_le {p h : Int} (h1 : 1 ≤ p ∧ p ≤ 8) (h2 : 1 ≤ h ∧ h ≤ 6) : 0 ≤ p * h ∧ p * h ≤ 48 := by
  have hp : p = 1 ∨ p = 2 ∨ p = 3 ∨ p = 4 ∨ p = 5 ∨ p = 6 ∨ p = 7 ∨ p = 8 := by omega
  rcases hp with rfl | rfl | rfl | rfl | rfl | rfl | rfl | rfl <;> omega
theorem byB_no {x : Int} (h : byB x = false) : x < 0 ∨ 255 < x := by unfold byB at h; simp at h; omega
theorem byB_yes {x : Int} (h : byB x = true) : 0 ≤ x ∧ x ≤ 255 := by unfold byB at h; simpa using h
theorem all_snocW {D : List Int} {j : Nat} (hj : j < D.length) (h : (D.take j).all byB = true) (hx : byB D[j] = true) : (D.take (j + 1)).all byB = true := by
  rw [take_snoc hj, List.all_append, h]; simp [hx]
theorem all_badW {D : List Int} {j : Nat} (hj : j < D.length) (hx : byB D[j] = false) : D.all byB = false := by
  rw [Bool.eq_false_iff]
  intro e
  have := List.all_eq_true.1 e D[j] (List.getElem_mem hj)
  rw [hx] at this; cases this

set_option maxHeartbeats 400000 in
theorem byte7_any (x : Int) (w : World) : Calls Try.prog 75 #[.int .i64 x] w fun e w' => e = .returned (.bool (byB x)) ∧ w' = w := by
  cases hb : byB x
  · rcases byB_no hb with hx | hx
    · have hx0 : ¬ 0 ≤ x := by omega
      clear hb
      go_enter Try.func75, Try.ntmps75
      go_wp2
      go_returns
      exact ⟨congrArg (fun b => Ending.returned (.bool b)) (by first | rfl | (simp; omega)), rfl⟩
    · have hx0 : 0 ≤ x := by omega
      have hx1 : ¬ x ≤ 255 := by omega
      clear hb
      go_enter Try.func75, Try.ntmps75
      go_wp2
      go_returns
      exact ⟨congrArg (fun b => Ending.returned (.bool b)) (by first | rfl | (simp; omega)), rfl⟩
  · obtain ⟨hx0, hx1⟩ := byB_yes hb
    clear hb
    go_enter Try.func75, Try.ntmps75
    go_wp2
    go_returns
    exact ⟨congrArg (fun b => Ending.returned (.bool b)) (by first | rfl | (simp; omega)), rfl⟩

theorem OwnR.capV {k : IntKind} {T : TypeId} {w : World} {base : Nat} {ao : Option Addr} {cap : Nat} {L : List Int} (h : OwnR k T w base ao cap L) : L.length ≤ cap := by
  rcases h.2 with ⟨_, h0⟩ | ⟨g, cap', cur, hv, _, _, hc, _⟩
  · omega
  · cases hv; exact hc

set_option maxRecDepth 100000 in
set_option maxHeartbeats 1000000 in
theorem idsIn_any (lo hi : Nat) (so : Option Addr) (sc : Nat) (L : List Wn) (w : World) (hL : Ws w lo hi so L) (hs : hi ≤ w.heap.size) (hn : L.length ≤ 1048576) :
    Calls Try.prog 60 #[.slice so L.length sc] w fun e w' => ∃ ao cap, e = .returned (.slice ao (L.map Wn.i).length cap) ∧ OwnR .i64 2 w' w.heap.size ao cap (L.map Wn.i) ∧ Below w.heap.size w w' := by
  have hn' : (L.length : Int) ≤ 1048576 := by omega
  have HL := hideP hL
  clear hL
  go_enter Try.func60, Try.ntmps60
  go_wp2
  go_loopw [3, 8] (fun v i wr => ∃ X Y : List Wn, X ++ Y = L ∧ i = .int .i64 (X.length : Nat) ∧ Below w.heap.size w wr ∧ ∃ ao cap, v = .slice ao (X.map Wn.i).length cap ∧ OwnR .i64 2 wr w.heap.size ao cap (X.map Wn.i)) (fun _ i _ => L.length - (intOf i).toNat)
  case atStart => exact ⟨[], L, rfl, rfl, Below.refl _ _, none, 0, rfl, OwnR.nil _ _ _ _⟩
  case round =>
    obtain ⟨X, Y, hXY, rfl, kb, ao, cap, rfl, O⟩ := hrel
    have hlen : X.length + Y.length = L.length := by rw [← hXY]; simp
    have hz := kb.size
    have HO := hideP O
    clear O
    cases Y with
    | cons r Y =>
      have hlt : (X.length : Int) < (L.length : Int) := by simp at hlen; omega
      have h0 := HL.out
      rw [← hXY] at h0
      obtain ⟨g, o, rfl, hg, hc, _⟩ := Ws.at h0
      obtain ⟨a0, a1, a2, a3, a4, a5, a6⟩ := (hc.keep kb (by omega)).seven
      have hgl : g < wr.heap.size := by omega
      have HB := hideP kb
      have HXY := hideP hXY
      have hXn : (X.map Wn.i).length ≤ 1048576 := by simp; omega
      have HXI : Hid ((X ++ [r]).map Wn.i = X.map Wn.i ++ [r.i]) := hideP (by simp)
      clear h0 hc kb hXY hlen HL
      obtain ⟨ri, rx, ry, rp, rh, rm, ⟨bo, cb, gb, D⟩⟩ := r
      simp only at a0 a1 a2 a3 a4 a5 a6 HXI
      generalize X.map Wn.i = XI at *
      go_wp2_with (first | (at_builtin; refine wpList_app (k := .i64) (T := 2) (S := 26) (bytes := 8) Try.underlying26 Try.infoI5 (by omega) rfl _ _ rfl w.heap.size ao cap XI rfl ((HO.out.alloc _).alloc _) _ 1 [ri] rfl (by have h := src_one .i64 (wr.alloc (.cells #[.int .i64 ri, .int .i64 rx, .int .i64 ry, .int .i64 rp, .int .i64 rh, .bool rm, .slice bo D.length cb] 47)) ri 2; rw [World.size_alloc] at h; exact h) (by simp; omega) (by simp; omega) ?_; intro ao8 ca8 w8 O8 K8) | go_in)
      go_roundw
      case rel =>
        refine ⟨X ++ [⟨ri, rx, ry, rp, rh, rm, ⟨bo, cb, gb, D⟩⟩], Y, midW HXY.out, by simp, ?_, ao8, ca8, by rw [HXI.out]; simp, by rw [HXI.out]; exact O8⟩
        exact HB.out.trans (Below.trans (by go_grown : Below w.heap.size wr _) K8)
      case measure => simp [intOf]; omega
    | nil =>
      have hX : X = L := by simpa using hXY
      subst hX
      have HB := hideP kb
      clear kb hXY HL
      go_wp2
      go_returns
      exact ⟨ao, cap, rfl, HO.out, HB.out⟩

set_option maxHeartbeats 400000 in
theorem area_ok (x y p h : Int) (w : World) (e : wrB x y p h = false) :
    Calls Try.prog 73 #[.agg #[.int .i64 x, .int .i64 y, .int .i64 p, .int .i64 h]] w fun e w' => e = .returned (.int .i64 0) ∧ Below w.heap.size w w' := by
  obtain ⟨_, _, ⟨h1, h2⟩, ⟨h3, h4⟩, hr⟩ := wrB_no e
  have RF := fun w => rf_any x y p h w
  rw [hr] at RF
  have RF' := hideP RF
  clear e RF hr
  go_enter Try.func73, Try.ntmps73
  go_wp2_with fail
  refine Calls.mono (RF'.out _) ?_
  rintro e w1 ⟨rfl, k1⟩
  have K1 : Hid (Below w.heap.size w w1) := hideP (Below.trans (by go_grown) (k1.mono (by simp)))
  have c2 : w1.cell? ⟨w.heap.size, 2, none⟩ = some (.int .i64 p) := (k1.cell (p := ⟨w.heap.size, 2, none⟩) (by simp)).trans (by simp)
  have c3 : w1.cell? ⟨w.heap.size, 3, none⟩ = some (.int .i64 h) := (k1.cell (p := ⟨w.heap.size, 3, none⟩) (by simp)).trans (by simp)
  have n1 : w.heap.size < w1.heap.size := by have := k1.size; simp at this; omega
  clear k1
  unfold rfOf
  go_wp2
  go_returns
  exact ⟨rfl, K1.out⟩

set_option maxHeartbeats 800000 in
theorem area_no (x y p h : Int) (w : World) (e : wrB x y p h = true) :
    Calls Try.prog 73 #[.agg #[.int .i64 x, .int .i64 y, .int .i64 p, .int .i64 h]] w fun e w' => e = .returned (.int .i64 3) ∧ Below w.heap.size w w' := by
  have RF := fun w => rf_any x y p h w
  cases hr : rfB x y p h
  · have hd : 8 < p ∨ (¬ 8 < p ∧ 6 < h) := by
      unfold wrB at e; rw [hr] at e; simp at e; omega
    rw [hr] at RF
    have RF' := hideP RF
    clear e RF hr
    rcases hd with h1 | ⟨h1, h2⟩
    all_goals
      go_enter Try.func73, Try.ntmps73
      go_wp2_with fail
      refine Calls.mono (RF'.out _) ?_
      rintro e w1 ⟨rfl, k1⟩
      have K1 : Hid (Below w.heap.size w w1) := hideP (Below.trans (by go_grown) (k1.mono (by simp)))
      have c2 : w1.cell? ⟨w.heap.size, 2, none⟩ = some (.int .i64 p) := (k1.cell (p := ⟨w.heap.size, 2, none⟩) (by simp)).trans (by simp)
      have c3 : w1.cell? ⟨w.heap.size, 3, none⟩ = some (.int .i64 h) := (k1.cell (p := ⟨w.heap.size, 3, none⟩) (by simp)).trans (by simp)
      have n1 : w.heap.size < w1.heap.size := by have := k1.size; simp at this; omega
      clear k1
      unfold rfOf
      go_wp2
      go_returns
      exact ⟨rfl, K1.out⟩
  · rw [hr] at RF
    have RF' := hideP RF
    clear e RF hr
    go_enter Try.func73, Try.ntmps73
    go_wp2_with fail
    refine Calls.mono (RF'.out _) ?_
    rintro e w1 ⟨rfl, k1⟩
    have K1 : Hid (Below w.heap.size w w1) := hideP (Below.trans (by go_grown) (k1.mono (by simp)))
    clear k1
    unfold rfOf
    go_wp2
    go_returns
    exact ⟨rfl, K1.out⟩
theorem area_any (x y p h : Int) (w : World) :
    Calls Try.prog 73 #[.agg #[.int .i64 x, .int .i64 y, .int .i64 p, .int .i64 h]] w fun e w' => e = .returned (.int .i64 (rfOf (wrB x y p h))) ∧ Below w.heap.size w w' := by
  cases e : wrB x y p h
  · exact area_ok x y p h w e
  · exact area_no x y p h w e

set_option maxHeartbeats 400000 in
theorem count_any (x y p h : Int) (w : World) (h1 : 1 ≤ p ∧ p ≤ 8) (h2 : 1 ≤ h ∧ h ≤ 6) :
    Calls Try.prog 74 #[.agg #[.int .i64 x, .int .i64 y, .int .i64 p, .int .i64 h]] w fun e w' => e = .returned (.int .i64 (p * h)) ∧ Below w.heap.size w w' := by
  obtain ⟨g1, g2⟩ := area_le h1 h2
  obtain ⟨q, hq⟩ : ∃ q, p * h = q := ⟨_, rfl⟩
  have hw : IntKind.i64.wrap (p * h) = q := by rw [hq]; exact IntWalk.i64_in _ (by omega)
  rw [hq] at g1 g2
  rw [hq]
  have HQ := hideP hq
  clear hq
  go_enter Try.func74, Try.ntmps74
  go_wp2
  go_returns
  exact ⟨rfl, by go_grown⟩
end Go.Proofs.Ytmmjannkfmiohaa

namespace Go.Proofs.Ytmmjannkfmiohaa
open Go.RowKit Go.Maps
set_option linter.unusedVariables false

set_option maxRecDepth 100000 in
set_option maxHeartbeats 1000000 in
theorem fow_rect (i x y p h : Int) (m : Bool) (ao : Option Addr) (n ca : Nat) (w : World) (e : wrB x y p h = true) :
    Calls Try.prog 61 #[.agg #[.int .i64 i, .int .i64 x, .int .i64 y, .int .i64 p, .int .i64 h, .bool m, .slice ao n ca]] w fun e w' => e = .returned (.int .i64 3) ∧ Below w.heap.size w w' := by
  have AR := hideP (fun w => area_no x y p h w e)
  clear e
  go_enter Try.func61, Try.ntmps61
  go_wp2_with fail
  refine Calls.mono (AR.out _) ?_
  rintro e w1 ⟨rfl, k1⟩
  have K1 : Hid (Below w.heap.size w w1) := hideP (Below.trans (by go_grown) (k1.mono (by simp; omega)))
  clear k1
  go_wp2
  go_returns
  exact ⟨rfl, K1.out⟩

set_option maxRecDepth 100000 in
set_option maxHeartbeats 2000000 in
theorem fow_ok (lo hi : Nat) (i x y p h : Int) (m : Bool) (ao : Option Addr) (ca : Nat) (D : List Int) (w : World) (hR : Row .i64 w lo hi ao D) (hs : hi ≤ w.heap.size) (hl : D.length ≤ 1048576) (e : wrB x y p h = false) :
    Calls Try.prog 61 #[.agg #[.int .i64 i, .int .i64 x, .int .i64 y, .int .i64 p, .int .i64 h, .bool m, .slice ao D.length ca]] w fun e w' => e = .returned (.int .i64 (winF ⟨i, x, y, p, h, m, D⟩)) ∧ Below w.heap.size w w' := by
  have hl' : (D.length : Int) ≤ 1048576 := by omega
  have AR := hideP (fun w => area_ok x y p h w e)
  obtain ⟨_, _, h1, h2, _⟩ := wrB_no e
  have CT := hideP (fun w => count_any x y p h w h1 h2)
  have WM := fun h2 => winF_many (c := ⟨i, x, y, p, h, m, D⟩) e h2
  have WB := fun h2 h3 => winF_byte (c := ⟨i, x, y, p, h, m, D⟩) e h2 h3
  have WO := fun h2 h3 => winF_ok (c := ⟨i, x, y, p, h, m, D⟩) e h2 h3
  simp only at WM WB WO
  obtain ⟨q, hq⟩ : ∃ q, p * h = q := ⟨_, rfl⟩
  rw [hq] at CT WM WB WO
  generalize winF ⟨i, x, y, p, h, m, D⟩ = F at *
  have HR := hideP hR
  clear e hq h1 h2 hR
  go_enter Try.func61, Try.ntmps61
  go_wp2_with fail
  refine Calls.mono (AR.out _) ?_
  rintro e w1 ⟨rfl, k1⟩
  have K1 : Hid (Below w.heap.size w w1) := hideP (Below.trans (by go_grown) (k1.mono (by simp; omega)))
  have c6 : w1.cell? ⟨w.heap.size, 6, none⟩ = some (.slice ao D.length ca) := (k1.cell (p := ⟨w.heap.size, 6, none⟩) (by simp; omega)).trans (by go_simp)
  have d0 : w1.cell? ⟨w.heap.size + 1, 0, none⟩ = some (.int .i64 x) := (k1.cell (p := ⟨w.heap.size + 1, 0, none⟩) (by simp)).trans (by go_simp)
  have d1 : w1.cell? ⟨w.heap.size + 1, 1, none⟩ = some (.int .i64 y) := (k1.cell (p := ⟨w.heap.size + 1, 1, none⟩) (by simp)).trans (by go_simp)
  have d2 : w1.cell? ⟨w.heap.size + 1, 2, none⟩ = some (.int .i64 p) := (k1.cell (p := ⟨w.heap.size + 1, 2, none⟩) (by simp)).trans (by go_simp)
  have d3 : w1.cell? ⟨w.heap.size + 1, 3, none⟩ = some (.int .i64 h) := (k1.cell (p := ⟨w.heap.size + 1, 3, none⟩) (by simp)).trans (by go_simp)
  have n1 : w.heap.size + 1 < w1.heap.size := by have := k1.size; simp at this; omega
  have n0 : w.heap.size < w1.heap.size := by omega
  clear k1
  by_cases hm : (D.length : Int) = q
  · have hne : ((D.length : Int) != q) = false := by simpa using hm
    have WB' := hideP (WB hm)
    have WO' := hideP (WO hm)
    clear WM WB WO
    go_wp2
    refine wp_region_kept (by kernel_rfl) (by kernel_rfl) ?_
    repeat (refine kept_step (by rfl) ?_; apply Exists.intro; refine ⟨fun w1 k1 => ?_, fun K hK => ?_⟩; (focus (have hc := Kept.cell k1; go_simp; first | done | rfl | (go_at_call 74; exact kept_call k1 (CT.out _)))); (go_simp; refine hK _ ?_; clear hK K))
    refine wpQuiet_nil ?_
    intro w5 k5
    replace k5 := Kept.below k5
    have hc5 := Kept.cell k5
    have hf5 := Kept.frozen k5
    have hz5 := k5.size
    try simp only [World.size_alloc] at hz5
    try simp only [World.size_setCell] at hz5
    try simp only [World.size_drew] at hz5
    have hb5_0 : w.heap.size < w5.heap.size ∧ w.heap.size ≤ w5.heap.size ∧ w.heap.size ≤ w5.heap.size + 1 ∧ ¬ w.heap.size = w5.heap.size ∧ ¬ w.heap.size = w5.heap.size + 1 := by omega
    have hb5_1 : w.heap.size + 1 < w5.heap.size ∧ w.heap.size + 1 ≤ w5.heap.size ∧ w.heap.size + 1 ≤ w5.heap.size + 1 ∧ ¬ w.heap.size + 1 = w5.heap.size ∧ ¬ w.heap.size + 1 = w5.heap.size + 1 := by omega
    have K5 := hideP (K1.out.trans (k5.mono (by omega)))
    have HR5 := hideP (HR.out.keep K5.out hs)
    clear hm
    go_wp2
    go_loop [23] (fun i => ∃ j : Nat, j ≤ D.length ∧ i = .int .i64 j ∧ (D.take j).all byB = true) (fun i => D.length - (intOf i).toNat)
    case atStart => exact ⟨0, Nat.zero_le _, rfl, rfl⟩
    case round =>
      obtain ⟨j, hj, rfl, hall⟩ := hrel
      by_cases hlt : j < D.length
      · have hlt' : (j : Int) < (D.length : Int) := by omega
        have hne' : D ≠ [] := fun e => by rw [e] at hlt; simp at hlt
        rcases HR5.out with e | ⟨g, o, rfl, _, hg, hc⟩
        · exact absurd e hne'
        have a0 := hc j hlt
        have hgl : g < w5.heap.size := by have := K5.out.size; omega
        have HBad := hideP (all_badW hlt)
        have HOn := hideP (all_snocW hlt hall)
        clear hc hall HR HR5 hne'
        generalize D[j] = z at *
        cases hz : byB z
        · have hF := hideP (WB'.out (HBad.out hz))
          clear HBad HOn WB' WO'
          go_wp2_with (go_at_call 75; refine Calls.mono (byte7_any _ _) ?_; rintro e w1 ⟨rfl, rfl⟩; rw [hz])
          go_returns
          exact ⟨by rw [hF.out]; rfl, K5.out⟩
        · have hO := hideP (HOn.out hz)
          clear HBad HOn
          go_wp2_with (go_at_call 75; refine Calls.mono (byte7_any _ _) ?_; rintro e w1 ⟨rfl, rfl⟩; rw [hz])
          go_round
          case rel => exact ⟨j + 1, by omega, by go_num, hO.out⟩
          case measure => simp [intOf]; omega
      · obtain rfl : j = D.length := by omega
        rw [List.take_length] at hall
        have hF := hideP (WO'.out hall)
        clear hall WB' WO'
        go_wp2
        go_returns
        exact ⟨by rw [hF.out]; rfl, K5.out⟩
  · have hne : ((D.length : Int) != q) = true := by simpa using hm
    have hF := hideP (WM hm)
    clear WM WB WO hm
    go_wp2
    refine wp_region_kept (by kernel_rfl) (by kernel_rfl) ?_
    repeat (refine kept_step (by rfl) ?_; apply Exists.intro; refine ⟨fun w1 k1 => ?_, fun K hK => ?_⟩; (focus (have hc := Kept.cell k1; go_simp; first | done | rfl | (go_at_call 74; exact kept_call k1 (CT.out _)))); (go_simp; refine hK _ ?_; clear hK K))
    refine wpQuiet_nil ?_
    intro w5 k5
    replace k5 := Kept.below k5
    have hc5 := Kept.cell k5
    have hf5 := Kept.frozen k5
    have hz5 := k5.size
    try simp only [World.size_alloc] at hz5
    try simp only [World.size_setCell] at hz5
    try simp only [World.size_drew] at hz5
    have hb5_0 : w.heap.size < w5.heap.size ∧ w.heap.size ≤ w5.heap.size ∧ w.heap.size ≤ w5.heap.size + 1 ∧ ¬ w.heap.size = w5.heap.size ∧ ¬ w.heap.size = w5.heap.size + 1 := by omega
    have hb5_1 : w.heap.size + 1 < w5.heap.size ∧ w.heap.size + 1 ≤ w5.heap.size ∧ w.heap.size + 1 ≤ w5.heap.size + 1 ∧ ¬ w.heap.size + 1 = w5.heap.size ∧ ¬ w.heap.size + 1 = w5.heap.size + 1 := by omega
    have K5 := hideP (K1.out.trans (k5.mono (by omega)))
    go_wp2
    go_returns
    exact ⟨by rw [hF.out]; rfl, K5.out⟩

theorem fow_any (lo hi : Nat) (i x y p h : Int) (m : Bool) (ao : Option Addr) (ca : Nat) (D : List Int) (w : World) (hR : Row .i64 w lo hi ao D) (hs : hi ≤ w.heap.size) (hl : D.length ≤ 1048576) :
    Calls Try.prog 61 #[.agg #[.int .i64 i, .int .i64 x, .int .i64 y, .int .i64 p, .int .i64 h, .bool m, .slice ao D.length ca]] w fun e w' => e = .returned (.int .i64 (winF ⟨i, x, y, p, h, m, D⟩)) ∧ Below w.heap.size w w' := by
  cases e : wrB x y p h
  · exact fow_ok lo hi i x y p h m ao ca D w hR hs hl e
  · rw [winF_rect (c := ⟨i, x, y, p, h, m, D⟩) e]
    exact fow_rect i x y p h m ao D.length ca w e

set_option maxRecDepth 100000 in
set_option maxHeartbeats 2000000 in
theorem iStack_two (lo hi : Nat) (so : Option Addr) (sc : Nat) (L : List Wn) (w : World) (hL : Ws w lo hi so L) (hs : hi ≤ w.heap.size) (hn : L.length ≤ 1048576) (hzz : wzs L ≤ 1048576) :
    Calls Try.prog 39 #[.slice so L.length sc] w fun e w' => e = .returned (.int .i64 (stF (L.map Wn.ct))) ∧ Below w.heap.size w w' := by
  have hn' : (L.length : Int) ≤ 1048576 := by omega
  have HL := hideP hL
  have HI : Hid ((L.map Wn.ct).map Wc.i = L.map Wn.i) := hideP (by simp [Wn.ct])
  have hLI : (L.map Wn.i).length ≤ 1048576 := by simp; omega
  have ID := idsIn_any lo hi so sc L w hL hs (by omega)
  obtain ⟨I, hI⟩ : ∃ I, L.map Wn.i = I := ⟨_, rfl⟩
  rw [hI] at HI hLI ID
  have ID' := hideP ID
  clear hL hI ID
  go_enter Try.func39, Try.ntmps39
  go_wp2_with fail
  refine Calls.mono ID'.out ?_
  rintro e w1 ⟨ao, cap, rfl, O1, k1⟩
  have K1 := hideP k1
  have n1 := k1.size
  go_wp2_with fail
  refine Calls.mono (iIds_any w.heap.size w1.heap.size ao cap I w1 (OwnR.wrt O1).row (Nat.le_refl _) hLI) ?_
  rintro e w2 ⟨rfl, k2⟩
  have K2 := hideP (K1.out.trans (k2.mono n1))
  have n2 := k2.size
  clear k1 k2 O1 K1 hLI ID'
  by_cases hid : idsF I = 0
  · have HS := hideP (stF_ws (C := L.map Wn.ct) (by rw [HI.out]; exact hid))
    rw [hid]
    clear hid
    go_wp2
    go_loopw [15] (fun i wr => ∃ X Y : List Wn, X ++ Y = L ∧ i = .int .i64 (X.length : Nat) ∧ wsF (X.map Wn.ct) = 0 ∧ Below w.heap.size w wr) (fun i _ => L.length - (intOf i).toNat)
    case atStart => exact ⟨[], L, rfl, rfl, rfl, K2.out⟩
    case round =>
      obtain ⟨X, Y, hXY, rfl, hF, kb⟩ := hrel
      have hlen : X.length + Y.length = L.length := by rw [← hXY]; simp
      have hz := kb.size
      have HF := hideP hF
      have HB := hideP kb
      clear hF kb K2
      cases Y with
      | cons r Y =>
        have hlt : (X.length : Int) < (L.length : Int) := by simp at hlen; omega
        have hsz : r.b.L.length ≤ wzs L := wzs_mem (v := r) (by rw [← hXY]; simp)
        have h0 := HL.out
        rw [← hXY] at h0
        obtain ⟨g, o, rfl, hg, hc, hon⟩ := Ws.at h0
        obtain ⟨a0, a1, a2, a3, a4, a5, a6⟩ := (hc.keep HB.out (by omega)).seven
        have hgl : g < wr.heap.size := by omega
        have HXY := hideP hXY
        have HR := hideP (Row.keep hon HB.out hs)
        clear h0 hc hXY HL hon
        obtain ⟨ri, rx, ry, rp, rh, rm, ⟨bo, cb, gb, D⟩⟩ := r
        simp only at a0 a1 a2 a3 a4 a5 a6 hsz HR
        go_wp2_with fail
        clear a0 a1 a2 a3 a4 a5 a6
        have ka : Below wr.heap.size wr (wr.alloc (.cells #[.int .i64 ri, .int .i64 rx, .int .i64 ry, .int .i64 rp, .int .i64 rh, .bool rm, .slice bo D.length cb] 47)) := (Below.refl _ _).alloc (Nat.le_refl _) _
        have HB1 := hideP (HB.out.trans (ka.mono hz))
        have HR1 := hideP (HR.out.keep ka (by omega))
        have hz1 := ka.size
        clear ka HB HR
        generalize wr.alloc (.cells #[.int .i64 ri, .int .i64 rx, .int .i64 ry, .int .i64 rp, .int .i64 rh, .bool rm, .slice bo D.length cb] 47) = w3 at *
        refine Calls.mono (fow_any lo hi ri rx ry rp rh rm bo cb D w3 HR1.out (by omega) (by omega)) ?_
        rintro e w4 ⟨rfl, k4⟩
        have HB2 := hideP (HB1.out.trans (k4.mono (by omega)))
        clear k4 HB1 HR1
        by_cases hc : winF ⟨ri, rx, ry, rp, rh, rm, D⟩ = 0
        · have HC := hideP hc
          rw [hc]
          clear hc
          go_wp2
          go_roundw
          case rel => exact ⟨X ++ [⟨ri, rx, ry, rp, rh, rm, ⟨bo, cb, gb, D⟩⟩], Y, midW HXY.out, by simp, by rw [List.map_append]; exact wsF_snoc HF.out HC.out, HB2.out⟩
          case measure => simp [intOf]; omega
        · obtain ⟨c, hcc⟩ : ∃ c, winF ⟨ri, rx, ry, rp, rh, rm, D⟩ = c := ⟨_, rfl⟩
          have hcn : (c != 0) = true := by rw [← hcc]; simpa using hc
          have HE : Hid (stF (L.map Wn.ct) = c) := hideP (by
            rw [HS.out, ← HXY.out, List.map_append, List.map_cons]
            exact (wsF_bad HF.out hc).trans hcc)
          rw [hcc]
          clear hc hcc
          go_wp2
          go_returns
          exact ⟨by rw [HE.out]; rfl, HB2.out⟩
      | nil =>
        have hX : X = L := by simpa using hXY
        subst hX
        have HE : Hid (stF (X.map Wn.ct) = 0) := hideP (HS.out.trans HF.out)
        clear hXY HL HF HS
        go_wp2
        go_returns
        exact ⟨by rw [HE.out]; rfl, HB.out⟩
  · have HS := hideP (stF_ids (C := L.map Wn.ct) (by rw [HI.out]; exact hid))
    rw [HI.out] at HS
    obtain ⟨c, hcc⟩ : ∃ c, idsF I = c := ⟨_, rfl⟩
    have hcn : (c != 0) = true := by rw [← hcc]; simpa using hid
    rw [hcc] at HS ⊢
    clear hid hcc
    go_wp2
    go_returns
    exact ⟨by rw [HS.out]; rfl, K2.out⟩
theorem iStack_any (lo hi : Nat) (so : Option Addr) (sc : Nat) (L : List Wn) (w : World) (hL : Ws w lo hi so L) (hs : hi ≤ w.heap.size) (hn : L.length + wzs L ≤ 1048576) :
    Calls Try.prog 39 #[.slice so L.length sc] w fun e w' => e = .returned (.int .i64 (stF (L.map Wn.ct))) ∧ Below w.heap.size w w' := iStack_two lo hi so sc L w hL hs (by omega) (by omega)

end Go.Proofs.Ytmmjannkfmiohaa
