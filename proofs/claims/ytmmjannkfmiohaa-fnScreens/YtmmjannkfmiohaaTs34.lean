/- The topmost window that is mapped and has a point: the specification. TopAt by the specification. -/
import Derived.Test.YtmmjannkfmiohaaTs15
import Derived.Test.YtmmjannkfmiohaaTs33
namespace Go.Proofs.Ytmmjannkfmiohaa
open Go.RowKit Go.Maps
set_option linter.unusedVariables false

def hitW (p q : Int) (v : Wn) : Bool := v.m && inB v.x v.y v.w v.h p q
/-- The topmost one that is hit. -/
structure Top (p q : Int) (L A : List Wn) (r : Wn) (B : List Wn) : Prop where
  eq : L = A ++ r :: B
  yes : hitW p q r = true
  no : ∀ v ∈ B, hitW p q v = false
theorem top_or (p q : Int) (L : List Wn) : (∀ v ∈ L, hitW p q v = false) ∨ ∃ A r B, Top p q L A r B := by
  induction L with
  | nil => exact .inl fun v h => by simp at h
  | cons r L ih =>
    rcases ih with h | ⟨A, s, B, h⟩
    · cases hr : hitW p q r
      · refine .inl fun v hv => ?_
        rcases List.mem_cons.1 hv with rfl | hv
        · exact hr
        · exact h v hv
      · exact .inr ⟨[], r, L, rfl, hr, h⟩
    · exact .inr ⟨r :: A, s, B, by rw [h.eq]; rfl, h.yes, h.no⟩
theorem ws_rect {w : World} {lo hi g o : Nat} {A B : List Wn} {r : Wn} (hc : Cl Wn.vals w g o r) : IsRect w g (o + 1) r.x r.y r.w r.h := by
  obtain ⟨a0, a1, a2, a3, a4, a5, a6⟩ := hc.seven
  exact ⟨a1, a2, a3, a4⟩

set_option maxRecDepth 100000 in
set_option maxHeartbeats 1000000 in
theorem l7Top_none (so : Option Addr) (sc : Nat) (L : List Wn) (p q : Int) (lo hi : Nat) (w : World) (hL : Ws w lo hi so L) (hs : hi ≤ w.heap.size) (hn : L.length ≤ 1048576) (hrf : ∀ v ∈ L, rfB v.x v.y v.w v.h = false) (h : ∀ v ∈ L, hitW p q v = false) :
    Calls Try.prog 70 #[.slice so L.length sc, .int .i64 p, .int .i64 q] w fun e w' => e = .returned (.int .i64 (-1)) ∧ Below w.heap.size w w' := by
  have hn' : (L.length : Int) ≤ 1048576 := by omega
  have HL := hideP hL
  have HN := hideP h
  have HRF := hideP hrf
  clear hL h hrf
  go_enter Try.func70, Try.ntmps70
  go_wp2
  go_loopw [7] (fun i wr => ∃ A B : List Wn, A ++ B = L ∧ i = .int .i64 ((A.length : Int) - 1) ∧ Below w.heap.size w wr) (fun i _ => (intOf i + 1).toNat)
  case atStart => exact ⟨L, [], by simp, rfl, Below.refl _ _⟩
  case round =>
    obtain ⟨A, B, hAB, rfl, kb⟩ := hrel
    have hlen : A.length + B.length = L.length := by rw [← hAB]; simp
    have HB := hideP kb
    have hz := kb.size
    rcases List.eq_nil_or_concat A with hA | ⟨A', r, hA⟩
    · subst hA
      clear kb HL HN hAB
      go_wp2
      go_returns
      exact ⟨rfl, HB.out⟩
    · rw [List.concat_eq_append] at hA
      subst hA
      have hAl : (((A' ++ [r]).length : Nat) : Int) - 1 = (A'.length : Nat) := by simp
      rw [hAl]
      have hlt : (A'.length : Int) < (L.length : Int) := by simp at hlen; omega
      have h0 := HL.out
      have hAB' : L = A' ++ r :: B := by rw [← hAB]; simp
      have hno := HN.out r (by rw [hAB']; simp)
      have hrr := HRF.out r (by rw [hAB']; simp)
      rw [hAB'] at h0
      obtain ⟨g, o, rfl, hg, hc, _⟩ := Ws.at h0
      have hcw := hc.keep kb (by omega)
      have hgl : g < wr.heap.size := by omega
      have RR := hideP (ws_rect (lo := 0) (hi := 0) (A := []) (B := []) hcw)
      have a5 := hcw.seven.2.2.2.2.2.1
      have HAB := hideP hAB
      clear h0 hc hAB hAB' kb hcw hAl HL HN HRF
      obtain ⟨ri, rx, ry, rp, rh, rm, b⟩ := r
      simp only [hitW] at hno
      simp only at RR a5 hrr
      cases rm
      · clear RR hno
        go_wp2
        go_roundw
        case rel => exact ⟨A', ⟨ri, rx, ry, rp, rh, false, b⟩ :: B, by rw [← HAB.out]; simp, by go_num, HB.out⟩
        case measure => simp [intOf]
      · have hno' : inB rx ry rp rh p q = false := by simpa using hno
        have HH := l2H_any g (o + A'.length * 7 + 1) rx ry rp rh p q wr RR.out hrr
        rw [hno'] at HH
        have HH' := hideP HH
        clear RR hno HH hno' hrr
        go_wp2_with fail
        refine Calls.mono HH'.out ?_
        rintro e w2 ⟨rfl, k2⟩
        have HB2 := hideP (HB.out.trans (k2.mono hz))
        clear k2 HH'
        go_wp2
        go_roundw
        case rel => exact ⟨A', ⟨ri, rx, ry, rp, rh, true, b⟩ :: B, by rw [← HAB.out]; simp, by go_num, HB2.out⟩
        case measure => simp [intOf]

set_option maxRecDepth 100000 in
set_option maxHeartbeats 1000000 in
theorem l7Top_some (so : Option Addr) (sc : Nat) (L : List Wn) (p q : Int) (lo hi : Nat) (w : World) (hL : Ws w lo hi so L) (hs : hi ≤ w.heap.size) (hn : L.length ≤ 1048576) (hrf : ∀ v ∈ L, rfB v.x v.y v.w v.h = false) (A0 B0 : List Wn) (r0 : Wn) (h : Top p q L A0 r0 B0) :
    Calls Try.prog 70 #[.slice so L.length sc, .int .i64 p, .int .i64 q] w fun e w' => e = .returned (.int .i64 (A0.length : Nat)) ∧ Below w.heap.size w w' := by
  have hn' : (L.length : Int) ≤ 1048576 := by omega
  have HL := hideP hL
  have HN := hideP h
  have HL0 := hideP (show L.length = A0.length + 1 + B0.length by rw [h.eq]; simp; omega)
  have HRF := hideP hrf
  clear hL h hrf
  go_enter Try.func70, Try.ntmps70
  go_wp2
  go_loopw [7] (fun i wr => ∃ A B : List Wn, A ++ B = B0 ∧ i = .int .i64 ((A0.length : Int) + 1 + (A.length : Int) - 1) ∧ Below w.heap.size w wr) (fun i _ => (intOf i + 1).toNat)
  case atStart => exact ⟨B0, [], by simp, by rw [HL0.out]; go_num, Below.refl _ _⟩
  case round =>
    obtain ⟨A, B, hAB, rfl, kb⟩ := hrel
    have hlen : A.length + B.length = B0.length := by rw [← hAB]; simp
    have hl0 := HL0.out
    have hl1 : A0.length < L.length := by omega
    have hl2 : A0.length + A.length < L.length := by omega
    clear hl0
    have HB := hideP kb
    have hz := kb.size
    rcases List.eq_nil_or_concat A with hA | ⟨A', r, hA⟩
    · subst hA
      have hAl : (A0.length : Int) + 1 + (([] : List Wn).length : Int) - 1 = (A0.length : Nat) := by simp
      rw [hAl]
      have hlt : (A0.length : Int) < (L.length : Int) := by omega
      have h0 := HL.out
      have hAB' := HN.out.eq
      have hno := HN.out.yes
      have hrr := HRF.out r0 (by rw [hAB']; simp)
      rw [hAB'] at h0
      obtain ⟨g, o, rfl, hg, hc, _⟩ := Ws.at h0
      have hcw := hc.keep kb (by omega)
      have hgl : g < wr.heap.size := by omega
      have RR := hideP (ws_rect (lo := 0) (hi := 0) (A := []) (B := []) hcw)
      have a5 := hcw.seven.2.2.2.2.2.1
      clear h0 hc hAB hAB' kb hcw hAl HL HN HRF
      obtain ⟨ri, rx, ry, rp, rh, rm, b⟩ := r0
      simp only [hitW, Bool.and_eq_true] at hno
      simp only at RR a5 hrr
      obtain ⟨rfl, hno'⟩ := hno
      have HH := l2H_any g (o + A0.length * 7 + 1) rx ry rp rh p q wr RR.out hrr
      rw [hno'] at HH
      have HH' := hideP HH
      clear RR HH hno' hrr
      go_wp2_with fail
      refine Calls.mono HH'.out ?_
      rintro e w2 ⟨rfl, k2⟩
      have HB2 := hideP (HB.out.trans (k2.mono hz))
      clear k2 HH'
      go_wp2
      go_returns
      exact ⟨rfl, HB2.out⟩
    · rw [List.concat_eq_append] at hA
      subst hA
      obtain ⟨C, hC⟩ : ∃ C, A0 ++ r0 :: A' = C := ⟨_, rfl⟩
      have HCl := hideP (show C.length = A0.length + 1 + A'.length by rw [← hC]; simp; omega)
      have hAl : (A0.length : Int) + 1 + (((A' ++ [r]).length : Nat) : Int) - 1 = (C.length : Nat) := by rw [HCl.out]; simp; omega
      rw [hAl]
      have hlt : (C.length : Int) < (L.length : Int) := by rw [HCl.out]; simp at hl2; omega
      have h0 := HL.out
      have hAB' : L = C ++ r :: B := by rw [HN.out.eq, ← hAB, ← hC]; simp
      have hno := HN.out.no r (by rw [← hAB]; simp)
      have hrr := HRF.out r (by rw [hAB']; simp)
      rw [hAB'] at h0
      obtain ⟨g, o, rfl, hg, hc, _⟩ := Ws.at h0
      have hcw := hc.keep kb (by omega)
      have hgl : g < wr.heap.size := by omega
      have RR := hideP (ws_rect (lo := 0) (hi := 0) (A := []) (B := []) hcw)
      have a5 := hcw.seven.2.2.2.2.2.1
      have HAB := hideP hAB
      clear h0 hc hAB hAB' kb hcw hAl HL HN HRF
      obtain ⟨ri, rx, ry, rp, rh, rm, b⟩ := r
      simp only [hitW] at hno
      simp only at RR a5 hrr
      cases rm
      · clear RR hno
        go_wp2
        go_roundw
        case rel => exact ⟨A', ⟨ri, rx, ry, rp, rh, false, b⟩ :: B, by rw [← HAB.out]; simp, by rw [HCl.out]; go_num, HB.out⟩
        case measure => simp [intOf]
      · have hno' : inB rx ry rp rh p q = false := by simpa using hno
        have HH := l2H_any g (o + C.length * 7 + 1) rx ry rp rh p q wr RR.out hrr
        rw [hno'] at HH
        have HH' := hideP HH
        clear RR hno HH hno' hrr
        go_wp2_with fail
        refine Calls.mono HH'.out ?_
        rintro e w2 ⟨rfl, k2⟩
        have HB2 := hideP (HB.out.trans (k2.mono hz))
        clear k2 HH'
        go_wp2
        go_roundw
        case rel => exact ⟨A', ⟨ri, rx, ry, rp, rh, true, b⟩ :: B, by rw [← HAB.out]; simp, by rw [HCl.out]; go_num, HB2.out⟩
        case measure => simp [intOf]
end Go.Proofs.Ytmmjannkfmiohaa

namespace Go.Proofs.Ytmmjannkfmiohaa
open Go.RowKit Go.Maps
set_option linter.unusedVariables false

def hitC (p q : Int) (c : Wc) : Bool := c.m && inB c.x c.y c.w c.h p q
/-- The id of the topmost one that is hit. -/
def topR (p q : Int) : List Wc → Option Int
  | [] => none
  | c :: C => match topR p q C with
    | some i => some i
    | none => if hitC p q c then some c.i else none
theorem topR_none {p q : Int} {L : List Wn} (h : ∀ v ∈ L, hitW p q v = false) : topR p q (L.map Wn.ct) = none := by
  induction L with
  | nil => rfl
  | cons v L ih =>
    have h1 : hitC p q v.ct = false := h v (by simp)
    simp only [List.map_cons, topR, ih fun u hu => h u (by simp [hu]), h1]
    rfl
theorem topR_some {p q : Int} {L A B : List Wn} {r : Wn} (h : Top p q L A r B) : topR p q (L.map Wn.ct) = some r.i := by
  rw [h.eq]
  have hy := h.yes
  have hn := topR_none h.no
  clear h
  induction A with
  | nil =>
    have h1 : hitC p q r.ct = true := hy
    simp only [List.nil_append, List.map_cons, topR, hn, h1, if_true]
    rfl
  | cons v A ih => simp only [List.cons_append, List.map_cons, topR, ih]
def topZ (C : List Wc) (p q : Int) : Int := if stF C = 0 then (if (topR p q C).isSome then 0 else 4) else stF C
def topV (C : List Wc) (p q : Int) : Int := if stF C = 0 then (topR p q C).getD 0 else 0
theorem top_bad {C : List Wc} {p q : Int} (h : ¬ stF C = 0) : topZ C p q = stF C ∧ topV C p q = 0 := by unfold topZ topV; rw [if_neg h, if_neg h]; exact ⟨rfl, rfl⟩
theorem top_none {L : List Wn} {p q : Int} (h : stF (L.map Wn.ct) = 0) (hn : ∀ v ∈ L, hitW p q v = false) : topZ (L.map Wn.ct) p q = 4 ∧ topV (L.map Wn.ct) p q = 0 := by
  unfold topZ topV; rw [if_pos h, if_pos h, topR_none hn]; exact ⟨rfl, rfl⟩
theorem top_some {L A B : List Wn} {r : Wn} {p q : Int} (h : stF (L.map Wn.ct) = 0) (ht : Top p q L A r B) : topZ (L.map Wn.ct) p q = 0 ∧ topV (L.map Wn.ct) p q = r.i := by
  unfold topZ topV; rw [if_pos h, if_pos h, topR_some ht]; exact ⟨rfl, rfl⟩
/-- No window of a right stack has a wrong rectangle. -/
theorem st_rect {L : List Wn} (h : stF (L.map Wn.ct) = 0) : ∀ v ∈ L, rfB v.x v.y v.w v.h = false := by
  intro v hv
  have h1 := wsF_mem (stF_ok h).2 v.ct (List.mem_map_of_mem hv)
  exact (wrB_no (winF_no h1).1).2.2.2.2

end Go.Proofs.Ytmmjannkfmiohaa
