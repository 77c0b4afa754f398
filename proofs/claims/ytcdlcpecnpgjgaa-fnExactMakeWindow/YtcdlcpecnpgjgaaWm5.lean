/- MakeWindow, by both. -/
import Derived.Test.YtcdlcpecnpgjgaaWm4
namespace Go.Proofs.Ytcdlcpecnpgjgaa
open Go.RowKit Go.Maps
set_option linter.unusedVariables false

theorem sMake_any (so : Option Addr) (sc : Nat) (L : List Wn) (s x y p h : Int) (w : World) (hL : Ws w 0 w.heap.size so L) (hn : L.length + wzs L ≤ 1048576) :
    Calls Try.prog 10 #[.slice so L.length sc, .int .i64 s, .agg #[.int .i64 x, .int .i64 y, .int .i64 p, .int .i64 h]] w (SAns (mkZ (L.map Wn.ct) s x y p h) (mkV (L.map Wn.ct) s x y p h) (mkP (L.map Wn.ct) s x y p h) (mkP (L.map Wn.ct) s x y p h).length w) := by
  by_cases hz : mkZ (L.map Wn.ct) s x y p h = 0
  · rw [hz]; exact sMake_yes so sc L s x y p h w hL hn hz
  · rw [mkV_no hz, mkP_no hz]; exact sMake_no so sc L s x y p h w hL hn hz
theorem iMake_any (so : Option Addr) (sc : Nat) (L : List Wn) (s x y p h : Int) (w : World) (hL : Ws w 0 w.heap.size so L) (hn : L.length + wzs L ≤ 1048576) :
    Calls Try.prog 13 #[.slice so L.length sc, .int .i64 s, .agg #[.int .i64 x, .int .i64 y, .int .i64 p, .int .i64 h]] w (SAns (mkZ (L.map Wn.ct) s x y p h) (mkV (L.map Wn.ct) s x y p h) (mkP (L.map Wn.ct) s x y p h) (mkP (L.map Wn.ct) s x y p h).length w) := by
  by_cases hz : mkZ (L.map Wn.ct) s x y p h = 0
  · rw [hz]; exact iMake_yes so sc L s x y p h w hL hn hz
  · rw [mkV_no hz, mkP_no hz]; exact iMake_no so sc L s x y p h w hL hn hz
/-- A right stack has few cells. -/
theorem stF_cz {C : List Wc} (h : stF C = 0) : C.length ≤ 12 ∧ cz C ≤ 48 * C.length := by
  obtain ⟨h1, h2⟩ := stF_ok h
  refine ⟨by have := idsF_len h1; simpa using this, ?_⟩
  clear h h1
  induction C with
  | nil => simp [cz]
  | cons c C ih =>
    have hm := wsF_mem h2
    have hc := winF_no (hm c (by simp))
    obtain ⟨_, _, p1, p2, _⟩ := wrB_no hc.1
    have ab := area_le p1 p2
    have := ih (wsF_all fun t m => hm t (by simp [m]))
    simp only [cz, List.length_cons]
    omega
theorem cz_snoc (C : List Wc) (c : Wc) : cz (C ++ [c]) = cz C + c.L.length := by
  induction C with
  | nil => simp [cz]
  | cons d C ih => simp only [List.cons_append, cz, ih]; omega
theorem small_make {L : List Wn} (s x y p h : Int) (hn : L.length + wzs L ≤ 1048576) : ∀ N : List Wn, N.map Wn.ct = mkP (L.map Wn.ct) s x y p h → N.length + wzs N ≤ 1048576 := by
  by_cases hz : mkZ (L.map Wn.ct) s x y p h = 0
  · obtain ⟨ha, hr, _⟩ := mk_ok hz
    obtain ⟨hst, _⟩ := askS_ok ha
    obtain ⟨_, _, p1, p2, _⟩ := wrB_no hr
    have ab := area_le p1 p2
    have h1 := stF_cz hst
    rw [mkP_yes hz]
    refine small_of (L := L) ?_
    rw [cz_snoc]
    simp only [List.length_append, List.length_cons, List.length_nil, List.length_replicate]
    omega
  · rw [mkP_no hz]
    exact small_of (L := L) (by simp [cz])
end Go.Proofs.Ytcdlcpecnpgjgaa
