/- Windows that are drawn: lists in memory of one's own, written into. MakeWindow, by both. -/
import Derived.Test.YtmmjannkfmiohaaTs22
import Derived.Test.YtmmjannkfmiohaaTs23
import Derived.Test.YtmmjannkfmiohaaTs25
import Derived.Laws.OwnMore
import Derived.OneCell
namespace Go.Proofs.Ytmmjannkfmiohaa
open Go.RowKit
set_option linter.unusedVariables false

theorem Ty.put {w : World} {g : Nat} {T : TypeId} (h : Ty w g T) (p : Addr) (v : Value) : Ty (w.setCell p v) g T := by
  obtain ⟨cs, fr, h⟩ := h
  by_cases e : g = p.block
  · subst e
    refine ⟨if p.spot.isSome then cs else cs.setIfInBounds p.off v, fr, ?_⟩
    simp [World.setCell, Array.getElem?_modify, h]
  · exact ⟨cs, fr, (Below.heap_setCell w p v g e).trans h⟩
theorem Wrt.oneW {k : IntKind} {w : World} {lo hi g o : Nat} {L : List Int} (h : Wrt k w lo hi (some ⟨g, o, none⟩) L) {n : Nat} (hn : n < L.length) (v : Int) : Wrt k (w.setCell ⟨g, o + n, none⟩ (.int k v)) lo hi (some ⟨g, o, none⟩) (L.set n v) := by
  rcases h with e | ⟨g', o', ha, h1, h2, hc, hf⟩
  · rw [e] at hn; simp at hn
  · cases ha
    refine .inr ⟨g, o, rfl, h1, h2, fun i hi => ?_, fun c => by simpa using hf c⟩
    have hi' : i < L.length := by simpa using hi
    rw [List.getElem_set]
    by_cases e : n = i
    · subst e
      rw [if_pos rfl]
      exact cell_set_same (hc n hn)
    · rw [if_neg e, cell_set_other (by omega)]
      exact hc i hi'
theorem Turn.far {b : Nat} {w w' : World} (t : Turn b w w') : Far b (b + 1) w w' := ⟨t.os, t.tape, t.output, t.size, fun q hq hc => t.block q hq (by omega)⟩
section
variable {V : Wn → List Value} {w w' : World} {base b g sc : Nat} {so : Option Addr} {L X Y : List Wn} {r r' : Wn} {T : TypeId}
theorem LinV.turn (h : LinV V T w base so sc L) (t : Turn b w w') (hb : b < base) : LinV V T w' base so sc L := by
  refine ⟨?_, (h.cis.far t.far (.inr (by omega))).wide (Nat.le_refl _) t.size, fun c m => Ci.ty_far (h.ty c m) t.far fun e => .inr (by have := h.cis.inn c m e; omega)⟩
  refine World.ownsRow.kept h.own (row := some b) ⟨t.os, t.tape, t.output, t.size, fun q hq hn => t.block q hq (fun e => hn (by rw [e]))⟩ ?_
  cases hv : Value.ownBlock (.slice so L.length sc) with
  | none => exact .inl rfl
  | some q =>
    refine .inr fun e => ?_
    injection e with e
    have := (World.ownsRow.lt h.own q hv).1
    omega
theorem vcs_set (hV : ∀ v, (V v).length = 7) {q : Nat} {u : Value} (hq : q < 7) (hu : V r' = (V r).set q u) : vcs V (X ++ r' :: Y) = (vcs V (X ++ r :: Y)).set (X.length * 7 + q) u := by
  rw [vcs_app, vcs_app, List.set_append_right _ _ (by rw [vcs_len hV]; omega), vcs_len hV, Nat.add_sub_cancel_left]
  congr 1
  show V r' ++ vcs V Y = (V r ++ vcs V Y).set q u
  rw [List.set_append_left _ _ (by rw [hV]; exact hq), hu]
/-- One cell of one window's seven written. -/
theorem LinV.put1 (hV : ∀ v, (V v).length = 7) (hT : T ≠ 2) (h : LinV V T w base (some ⟨g, 0, none⟩) sc (X ++ r :: Y)) {q : Nat} {u : Value} (hq : q < 7) (hu : V r' = (V r).set q u) (hb : r'.b = r.b) :
    LinV V T (w.setCell ⟨g, X.length * 7 + q, none⟩ u) base (some ⟨g, 0, none⟩) sc (X ++ r' :: Y) := by
  have e : (X ++ r' :: Y).map Wn.b = (X ++ r :: Y).map Wn.b := by simp [hb]
  have el : (X ++ r' :: Y).length = (X ++ r :: Y).length := by simp
  have hne : ∀ c ∈ (X ++ r :: Y).map Wn.b, c.L ≠ [] → g ≠ c.g := fun c m hn e2 => h.own.other hT (h.ty c m) hn (by rw [← e2]; rfl)
  refine ⟨?_, ?_, fun c m => ?_⟩
  · have := (World.ownsRow.stored h.own (X.length * 7 + q) u).1
    unfold OwnV
    rw [el, vcs_set hV hq hu]
    exact this
  · rw [e]
    refine ⟨fun c m => Ci.on_set (h.cis.each c m) _ _ (hne c m), ?_, h.cis.apart⟩
    intro c m hn
    have := h.cis.inn c m hn
    simpa using this
  · rw [e] at m
    exact fun hn => (h.ty c m hn).put _ _
/-- One cell of a window's numbers written. -/
theorem LinV.num (hT : T ≠ 2) (h : LinV V T w base so sc (X ++ r :: Y)) (hn : r.b.L ≠ []) {i : Nat} (hi : i < r.b.L.length) (n : Int) (hb : r'.b = ⟨r.b.ao, r.b.cap, r.b.g, r.b.L.set i n⟩) (hv : V r' = V r) :
    LinV V T (w.setCell ⟨r.b.g, i, none⟩ (.int .i64 n)) base so sc (X ++ r' :: Y) := by
  have hcis := h.cis
  rw [List.map_append, List.map_cons] at hcis
  have hbo := hcis.each r.b (by simp)
  have el : (X ++ r' :: Y).length = (X ++ r :: Y).length := by simp
  have hW := hbo.1
  rw [hbo.2 hn] at hW
  have f : Far r.b.g (r.b.g + 1) w (w.setCell ⟨r.b.g, i, none⟩ (.int .i64 n)) := (Far.refl _ _ w).setCell (p := ⟨r.b.g, i, none⟩) (Nat.le_refl _) (Nat.lt_succ_self _) _
  have hm : (X ++ r' :: Y).map V = (X ++ r :: Y).map V := by simp [hv]
  have hvc : vcs V (X ++ r' :: Y) = vcs V (X ++ r :: Y) := by
    unfold vcs
    rw [List.flatMap_def, List.flatMap_def, hm]
  refine ⟨?_, ?_, fun c m hc => ?_⟩
  · unfold OwnV
    rw [el, hvc]
    exact ownsRow_setCell_other h.own (fun e => h.own.other hT (h.ty r.b (by simp)) hn e.symm) _
  · rw [List.map_append, List.map_cons, hb]
    have := hcis.mark hn f (L' := r.b.L.set i n) (by
      rw [hbo.2 hn]
      have := hW.oneW hi n
      simpa using this)
    exact this.wide (Nat.le_refl _) (by simp)
  · rw [List.map_append, List.map_cons, List.mem_append, List.mem_cons] at m
    rcases m with m | rfl | m
    · exact (h.ty c (by rw [List.map_append, List.map_cons]; simp [m]) hc).put _ _
    · rw [hb]
      exact (h.ty r.b (by simp) hn).put _ _
    · exact (h.ty c (by rw [List.map_append, List.map_cons]; simp [m]) hc).put _ _
end

/-- A list of windows is being drawn. -/
structure WMid (w wr : World) (B b : Nat) (a : Option Addr) (len cap : Nat) (f : Nat → Int) (t : Int) (so : Option Addr) (sc : Nat) (M : List Wn) : Prop where
  lin : LinV Wn.vals 47 wr w.heap.size so sc M
  turn : Turn b w wr
  src : Src wr B b a len cap f t
section
variable {w wr w1 : World} {B b : Nat} {a : Option Addr} {len cap : Nat} {f : Nat → Int} {t t1 : Int} {so s : Option Addr} {sc c : Nat} {M N : List Wn}
theorem WMid.next (h : WMid w wr B b a len cap f t so sc M) (hb : b < w.heap.size) (k : Turn b wr w1) (s : Src w1 B b a len cap f t1) : WMid w w1 B b a len cap f t1 so sc M := ⟨h.lin.turn k hb, h.turn.trans k, s⟩
theorem WMid.keep (h : WMid w wr B b a len cap f t so sc M) (k : Below wr.heap.size wr w1) : WMid w w1 B b a len cap f t so sc M := ⟨h.lin.keep k, h.turn.trans (Turn.of_below k), h.src.grow k⟩
theorem WMid.new (h : WMid w wr B b a len cap f t so sc M) (k : Below wr.heap.size wr w1) (l : LinV Wn.vals 47 w1 wr.heap.size s c N) : WMid w w1 B b a len cap f t s c N := ⟨l.low h.turn.size, h.turn.trans (Turn.of_below k), h.src.grow k⟩
theorem WMid.ws (h : WMid w wr B b a len cap f t so sc M) : Ws wr 0 wr.heap.size so M := (h.lin.wq vals7 winNe h.turn.size).ws.wide (Nat.zero_le _) (Nat.le_refl _)
/-- A cell behind the source written. -/
theorem WMid.put (h : WMid w wr B b a len cap f t so sc M) (hb : b < w.heap.size) (p : Addr) (v : Value) (hp : w.heap.size ≤ p.block) (l : LinV Wn.vals 47 (wr.setCell p v) w.heap.size so sc N) : WMid w (wr.setCell p v) B b a len cap f t so sc N :=
  ⟨l, h.turn.setCell hp v, h.src.store p v (by omega)⟩
end
theorem winNeI : (47 : TypeId) ≠ 2 := by decide
end Go.Proofs.Ytmmjannkfmiohaa

namespace Go.Proofs.Ytmmjannkfmiohaa
open Go.RowKit Go.Maps
set_option linter.unusedVariables false

theorem sMake_any (so : Option Addr) (sc : Nat) (L : List Wn) (s x y p h : Int) (w : World) (hL : Ws w 0 w.heap.size so L) (hn : L.length + wzs L ≤ 1048576) :
    Calls Try.prog 64 #[.slice so L.length sc, .int .i64 s, .agg #[.int .i64 x, .int .i64 y, .int .i64 p, .int .i64 h]] w (SAns (mkZ (L.map Wn.ct) s x y p h) (mkV (L.map Wn.ct) s x y p h) (mkP (L.map Wn.ct) s x y p h) (mkP (L.map Wn.ct) s x y p h).length w) := by
  by_cases hz : mkZ (L.map Wn.ct) s x y p h = 0
  · rw [hz]; exact sMake_yes so sc L s x y p h w hL hn hz
  · rw [mkV_no hz, mkP_no hz]; exact sMake_no so sc L s x y p h w hL hn hz

/-- A right stack has few cells. -/
theorem stF_cz {C : List Wc} (h : stF C = 0) : C.length ≤ 12 ∧ cz C ≤ 48 * C.length := by
  obtain ⟨h1, h2⟩ := stF_ok h
  refine ⟨by have := idsF_len h1; simpa using this, ?_⟩
  clear h h1
  induction C with
  | nil => simp [cz]
  | cons c C ih =>
    have hm := wsF_mem h2
    have hc := winF_no (hm c (by simp))
    obtain ⟨_, _, p1, p2, _⟩ := wrB_no hc.1
    have ab := area_le p1 p2
    have := ih (wsF_all fun t m => hm t (by simp [m]))
    simp only [cz, List.length_cons]
    omega
theorem cz_snoc (C : List Wc) (c : Wc) : cz (C ++ [c]) = cz C + c.L.length := by
  induction C with
  | nil => simp [cz]
  | cons d C ih => simp only [List.cons_append, cz, ih]; omega

theorem small_make {L : List Wn} (s x y p h : Int) (hn : L.length + wzs L ≤ 1048576) : ∀ N : List Wn, N.map Wn.ct = mkP (L.map Wn.ct) s x y p h → N.length + wzs N ≤ 1048576 := by
  by_cases hz : mkZ (L.map Wn.ct) s x y p h = 0
  · obtain ⟨ha, hr, _⟩ := mk_ok hz
    obtain ⟨hst, _⟩ := askS_ok ha
    obtain ⟨_, _, p1, p2, _⟩ := wrB_no hr
    have ab := area_le p1 p2
    have h1 := stF_cz hst
    rw [mkP_yes hz]
    refine small_of (L := L) ?_
    rw [cz_snoc]
    simp only [List.length_append, List.length_cons, List.length_nil, List.length_replicate]
    omega
  · rw [mkP_no hz]
    exact small_of (L := L) (by simp [cz])
end Go.Proofs.Ytmmjannkfmiohaa
