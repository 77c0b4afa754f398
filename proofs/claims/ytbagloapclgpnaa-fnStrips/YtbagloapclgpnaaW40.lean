/- A map from points to places. The topmost window that is mapped and has a point: the specification. -/
import Derived.Test.YtbagloapclgpnaaW6
import Derived.Maps.OwnSet
import Derived.Maps.OwnIn
import Derived.DeepKeys4
import Derived.Test.YtbagloapclgpnaaW19
import Derived.Test.YtbagloapclgpnaaW37
import Derived.Test.YtbagloapclgpnaaW20
namespace Go.Proofs.Ytbagloapclgpnaa
open Go.RowKit Go.Maps
set_option linter.unusedVariables false

theorem Try.laidP : laidOutB Try.prog = true := by kernel_rfl
theorem Try.rowPt : (94 : TypeId) < Try.prog.types.size := of_decide_eq_true (by kernel_rfl)
theorem Try.widePt : (match Try.prog.underlying 94 with | some (.array _ _) | some (.struct _) => true | _ => false) = true := by rw [Try.underlying94]
set_option maxRecDepth 100000 in
theorem Try.keyPt : Keyed Try.prog 94 := Keyed.of_law (deep_law_laid Try.laidP (m := 2) (by omega) Try.rowPt (by kernel_rfl) Try.widePt)
theorem Try.sizeTy : ∃ n, Try.prog.types.size + 1 = n + 2 := ⟨Try.prog.types.size - 1, by have : 0 < Try.prog.types.size := of_decide_eq_true (by kernel_rfl); omega⟩
theorem Try.cellsPt : Try.prog.cellsOf 94 = 2 := by kernel_rfl
theorem Try.cells64 : Try.prog.cellsOf 2 = 1 := by kernel_rfl

theorem key_pt (x y : Int) (hx : (Lit.int .i64 x).wf = true) (hy : (Lit.int .i64 y).wf = true) : ∃ kl, keyOf Try.prog 94 (.agg #[.int .i64 x, .int .i64 y]) = some kl := by
  obtain ⟨n, hn⟩ := Try.sizeTy
  have hk : Try.prog.keyType 94 = true := by kernel_rfl
  have hf : (Value.agg #[.int .i64 x, .int .i64 y]).formed Try.prog 94 = true := by simp [Value.formed, Try.underlying94, Try.cellsPt]
  have h2 : Try.prog.keyLits (n + 2) 94 [.int .i64 x, .int .i64 y] = some [.int .i64 x, .int .i64 y] := by
    simp [Program.keyLits, Try.underlying94, Try.underlying2, Try.cellsPt, Try.cells64, hx, hy]
  refine ⟨.string (keyBytes [.int .i64 x, .int .i64 y]), ?_⟩
  unfold keyOf
  rw [Try.underlying94]
  have e : (Value.agg #[.int .i64 x, .int .i64 y]).cells.toList = [.int .i64 x, .int .i64 y] := by rfl
  simp only [hk, hf, Bool.and_self, if_true, e]
  rw [hn, h2]
  rfl

/-- Block b is a map of at most n points; f says which and where they lead. -/
def Omp (w : World) (b n : Nat) (f : Int → Int → Option Int) : Prop :=
  ∃ D : DataW Unit, w.ownsMap Try.prog 94 (plainElem Try.prog 3) b n D ∧ ∀ x y kl, (Lit.int .i64 x).wf = true → (Lit.int .i64 y).wf = true → keyOf Try.prog 94 (.agg #[.int .i64 x, .int .i64 y]) = some kl →
    Maps.has D kl = (f x y).isSome ∧ D.atKey kl (.lit (.int .i64 0)) = .lit (.int .i64 ((f x y).getD 0))

theorem Omp.keep {w w' : World} {b n B : Nat} {f : Int → Int → Option Int} (h : Omp w b n f) (k : Below B w w') (hb : b < B) : Omp w' b n f := by
  obtain ⟨D, ⟨es, clock, hbk, r⟩, hf⟩ := h
  exact ⟨D, ⟨es, clock, (k.block b hb).trans hbk, r⟩, hf⟩
theorem Omp.same {w w' : World} {b n : Nat} {f : Int → Int → Option Int} (h : Omp w b n f) (e : w'.heap[b]? = w.heap[b]?) : Omp w' b n f := by
  obtain ⟨D, ⟨es, clock, hbk, r⟩, hf⟩ := h
  exact ⟨D, ⟨es, clock, e.trans hbk, r⟩, hf⟩
theorem Omp.lt {w : World} {b n : Nat} {f : Int → Int → Option Int} (h : Omp w b n f) : b < w.heap.size := by
  obtain ⟨D, ⟨es, clock, hbk, r⟩, hf⟩ := h
  exact (Array.getElem?_eq_some_iff.1 hbk).1
theorem Omp.as {w : World} {b n : Nat} {f g : Int → Int → Option Int} (h : Omp w b n f) (e : ∀ x y, f x y = g x y) : Omp w b n g := by
  have : f = g := funext fun x => funext fun y => e x y
  rw [← this]; exact h
theorem Omp.mono {w : World} {b n m : Nat} {f : Int → Int → Option Int} (h : Omp w b n f) (hm : n ≤ m) : Omp w b m f := by
  obtain ⟨D, h1, h2⟩ := h
  exact ⟨D, h1.mono hm, h2⟩

def putO (f : Int → Int → Option Int) (x y v : Int) : Int → Int → Option Int := fun p q => if p = x ∧ q = y then some v else f p q

theorem point_inj {x y p q : Int} {kl : Lit} (h : keyOf Try.prog 94 (.agg #[.int .i64 x, .int .i64 y]) = some kl) (h2 : keyOf Try.prog 94 (.agg #[.int .i64 p, .int .i64 q]) = some kl) : p = x ∧ q = y := by
  have e := Try.keyPt.inj h2 h
  injection e with e
  have e2 := congrArg Array.toList e
  simp at e2
  exact e2

/-- One point more. -/
theorem omp_put {w' : World} {b n : Nat} {f : Int → Int → Option Int} {D : DataW Unit} {x y v : Int} {kl : Lit} (hx : (Lit.int .i64 x).wf = true) (hy : (Lit.int .i64 y).wf = true) (hk : keyOf Try.prog 94 (.agg #[.int .i64 x, .int .i64 y]) = some kl) (hm : IsMap D)
    (hf : ∀ x y kl, (Lit.int .i64 x).wf = true → (Lit.int .i64 y).wf = true → keyOf Try.prog 94 (.agg #[.int .i64 x, .int .i64 y]) = some kl → Maps.has D kl = (f x y).isSome ∧ D.atKey kl (.lit (.int .i64 0)) = .lit (.int .i64 ((f x y).getD 0)))
    (ho : w'.ownsMap Try.prog 94 (plainElem Try.prog 3) b (n + 1) (D.put kl (.lit (.int .i64 v)))) : Omp w' b (n + 1) (putO f x y v) := by
  refine ⟨_, ho, fun p q kl2 hp hq hk2 => ?_⟩
  unfold putO
  by_cases e : p = x ∧ q = y
  · obtain ⟨rfl, rfl⟩ := e
    rw [hk] at hk2
    cases hk2
    rw [if_pos ⟨rfl, rfl⟩, has_put_same hm (Try.keyPt.key hk), atKey_put_same hm (Try.keyPt.key hk)]
    exact ⟨rfl, rfl⟩
  · rw [if_neg e]
    have hne : kl2 ≠ kl := fun h => e (point_inj hk (by rw [← h]; exact hk2))
    rw [has_put_other hne, atKey_put_other hne]
    exact hf p q kl2 hp hq hk2

theorem omp_made (w : World) : Omp (w.alloc (.map #[] 0)) w.heap.size 0 (fun _ _ => none) := ⟨.map [], World.ownsMap_made _ _ _ _, fun _ _ _ _ _ _ => ⟨rfl, rfl⟩⟩

theorem Try.zeroO (w : World) : (zeroValue 3).run Try.prog w = .ok (.int .i64 0) w := by kernel_rfl

section
variable {w : World} {ops : Array Oper} {rest : List Oper} {o : Oper} {a : Act} {Q : Exit → Act → World → Prop}
theorem wpListIn_ownPut {F : Fence} {nF : Nat} (hg : o.guard = none) (m x v : Operand) (hop : o.op = Op.mapUpdate 86 m x v) (b n : Nat) (f : Int → Int → Option Int)
    (hm : a.eval m = .map (some b)) (hN : Omp w b n f) (hn : n < maxLen) (p q z : Int) (hx : a.eval x = .agg #[.int .i64 p, .int .i64 q]) (hv : a.eval v = .int .i64 z) (hp : (Lit.int .i64 p).wf = true) (hq : (Lit.int .i64 q).wf = true) (hz : (Lit.int .i64 z).wf = true)
    (hK : ∀ w', Omp w' b (n + 1) (putO f p q z) → w.grownBy w' (some b) → wpListIn F nF Try.prog ops Q rest (a.put o.dst undef) w') : wpListIn F nF Try.prog ops Q (o :: rest) a w := by
  obtain ⟨D, hown, hf⟩ := hN
  obtain ⟨kl, hkl⟩ := key_pt p q hp hq
  refine wpListIn_mapUpdate_in w hg m x v 86 hop 94 3 Try.keyPt Try.underlying86 (plainElem Try.prog 3) b n D hm hown hn _ _ _ hx hv hkl (.lit (.int .i64 z)) [] (plainElem_int Try.underlying3 hz) fun w' h1 h2 => ?_
  exact hK w' (omp_put hp hq hkl hown.isMap hf h1) h2.grown
theorem wpListIn_ownAsk {F : Fence} {nF : Nat} (hg : o.guard = none) (m x : Operand) (hop : o.op = Op.lookup 86 m x true) (b n : Nat) (f : Int → Int → Option Int)
    (hm : a.eval m = .map (some b)) (hN : Omp w b n f) (p q : Int) (hx : a.eval x = .agg #[.int .i64 p, .int .i64 q]) (hp : (Lit.int .i64 p).wf = true) (hq : (Lit.int .i64 q).wf = true)
    (hK : wpListIn F nF Try.prog ops Q rest (a.put o.dst (.tuple #[.int .i64 ((f p q).getD 0), .bool (f p q).isSome])) w) : wpListIn F nF Try.prog ops Q (o :: rest) a w := by
  obtain ⟨D, hown, hf⟩ := hN
  obtain ⟨kl, hkl⟩ := key_pt p q hp hq
  obtain ⟨h1, h2⟩ := hf p q kl hp hq hkl
  refine wpListIn_lookup_own_ok_int w hg m x 86 hop 94 3 .i64 Try.keyPt Try.underlying86 Try.underlying3 (Try.zeroO w) b n D hm hown _ kl hx hkl fun c hc hw => ?_
  rw [h2] at hc
  injection hc with hc
  injection hc with hc1 hc
  rw [h1, ← hc]
  exact hK
end
end Go.Proofs.Ytbagloapclgpnaa

namespace Go.Proofs.Ytbagloapclgpnaa
open Go.RowKit Go.Maps
set_option linter.unusedVariables false

def hitW (p q : Int) (v : Wn) : Bool := v.m && inB v.x v.y v.w v.h p q
/-- The topmost one that is hit. -/
structure Top (p q : Int) (L A : List Wn) (r : Wn) (B : List Wn) : Prop where
  eq : L = A ++ r :: B
  yes : hitW p q r = true
  no : ∀ v ∈ B, hitW p q v = false
theorem top_or (p q : Int) (L : List Wn) : (∀ v ∈ L, hitW p q v = false) ∨ ∃ A r B, Top p q L A r B := by
  induction L with
  | nil => exact .inl fun v h => by simp at h
  | cons r L ih =>
    rcases ih with h | ⟨A, s, B, h⟩
    · cases hr : hitW p q r
      · refine .inl fun v hv => ?_
        rcases List.mem_cons.1 hv with rfl | hv
        · exact hr
        · exact h v hv
      · exact .inr ⟨[], r, L, rfl, hr, h⟩
    · exact .inr ⟨r :: A, s, B, by rw [h.eq]; rfl, h.yes, h.no⟩
theorem ws_rect {w : World} {lo hi g o : Nat} {A B : List Wn} {r : Wn} (hc : Cl Wn.vals w g o r) : IsRect w g (o + 1) r.x r.y r.w r.h := by
  obtain ⟨a0, a1, a2, a3, a4, a5, a6⟩ := hc.seven
  exact ⟨a1, a2, a3, a4⟩

set_option maxRecDepth 100000 in
set_option maxHeartbeats 1000000 in
theorem l7Top_none (so : Option Addr) (sc : Nat) (L : List Wn) (p q : Int) (lo hi : Nat) (w : World) (hL : Ws w lo hi so L) (hs : hi ≤ w.heap.size) (hn : L.length ≤ 1048576) (hrf : ∀ v ∈ L, rfB v.x v.y v.w v.h = false) (h : ∀ v ∈ L, hitW p q v = false) :
    Calls Try.prog 74 #[.slice so L.length sc, .int .i64 p, .int .i64 q] w fun e w' => e = .returned (.int .i64 (-1)) ∧ Below w.heap.size w w' := by
  have hn' : (L.length : Int) ≤ 1048576 := by omega
  have HL := hideP hL
  have HN := hideP h
  have HRF := hideP hrf
  clear hL h hrf
  go_enter Try.func74, Try.ntmps74
  go_wp2
  go_loopw [7] (fun i wr => ∃ A B : List Wn, A ++ B = L ∧ i = .int .i64 ((A.length : Int) - 1) ∧ Below w.heap.size w wr) (fun i _ => (intOf i + 1).toNat)
  case atStart => exact ⟨L, [], by simp, rfl, Below.refl _ _⟩
  case round =>
    obtain ⟨A, B, hAB, rfl, kb⟩ := hrel
    have hlen : A.length + B.length = L.length := by rw [← hAB]; simp
    have HB := hideP kb
    have hz := kb.size
    rcases List.eq_nil_or_concat A with hA | ⟨A', r, hA⟩
    · subst hA
      clear kb HL HN hAB
      go_wp2
      go_returns
      exact ⟨rfl, HB.out⟩
    · rw [List.concat_eq_append] at hA
      subst hA
      have hAl : (((A' ++ [r]).length : Nat) : Int) - 1 = (A'.length : Nat) := by simp
      rw [hAl]
      have hlt : (A'.length : Int) < (L.length : Int) := by simp at hlen; omega
      have h0 := HL.out
      have hAB' : L = A' ++ r :: B := by rw [← hAB]; simp
      have hno := HN.out r (by rw [hAB']; simp)
      have hrr := HRF.out r (by rw [hAB']; simp)
      rw [hAB'] at h0
      obtain ⟨g, o, rfl, hg, hc, _⟩ := Ws.at h0
      have hcw := hc.keep kb (by omega)
      have hgl : g < wr.heap.size := by omega
      have RR := hideP (ws_rect (lo := 0) (hi := 0) (A := []) (B := []) hcw)
      have a5 := hcw.seven.2.2.2.2.2.1
      have HAB := hideP hAB
      clear h0 hc hAB hAB' kb hcw hAl HL HN HRF
      obtain ⟨ri, rx, ry, rp, rh, rm, b⟩ := r
      simp only [hitW] at hno
      simp only at RR a5 hrr
      cases rm
      · clear RR hno
        go_wp2
        go_roundw
        case rel => exact ⟨A', ⟨ri, rx, ry, rp, rh, false, b⟩ :: B, by rw [← HAB.out]; simp, by go_num, HB.out⟩
        case measure => simp [intOf]
      · have hno' : inB rx ry rp rh p q = false := by simpa using hno
        have HH := l2H_any g (o + A'.length * 7 + 1) rx ry rp rh p q wr RR.out hrr
        rw [hno'] at HH
        have HH' := hideP HH
        clear RR hno HH hno' hrr
        go_wp2_with fail
        refine Calls.mono HH'.out ?_
        rintro e w2 ⟨rfl, k2⟩
        have HB2 := hideP (HB.out.trans (k2.mono hz))
        clear k2 HH'
        go_wp2
        go_roundw
        case rel => exact ⟨A', ⟨ri, rx, ry, rp, rh, true, b⟩ :: B, by rw [← HAB.out]; simp, by go_num, HB2.out⟩
        case measure => simp [intOf]

set_option maxRecDepth 100000 in
set_option maxHeartbeats 1000000 in
theorem l7Top_some (so : Option Addr) (sc : Nat) (L : List Wn) (p q : Int) (lo hi : Nat) (w : World) (hL : Ws w lo hi so L) (hs : hi ≤ w.heap.size) (hn : L.length ≤ 1048576) (hrf : ∀ v ∈ L, rfB v.x v.y v.w v.h = false) (A0 B0 : List Wn) (r0 : Wn) (h : Top p q L A0 r0 B0) :
    Calls Try.prog 74 #[.slice so L.length sc, .int .i64 p, .int .i64 q] w fun e w' => e = .returned (.int .i64 (A0.length : Nat)) ∧ Below w.heap.size w w' := by
  have hn' : (L.length : Int) ≤ 1048576 := by omega
  have HL := hideP hL
  have HN := hideP h
  have HL0 := hideP (show L.length = A0.length + 1 + B0.length by rw [h.eq]; simp; omega)
  have HRF := hideP hrf
  clear hL h hrf
  go_enter Try.func74, Try.ntmps74
  go_wp2
  go_loopw [7] (fun i wr => ∃ A B : List Wn, A ++ B = B0 ∧ i = .int .i64 ((A0.length : Int) + 1 + (A.length : Int) - 1) ∧ Below w.heap.size w wr) (fun i _ => (intOf i + 1).toNat)
  case atStart => exact ⟨B0, [], by simp, by rw [HL0.out]; go_num, Below.refl _ _⟩
  case round =>
    obtain ⟨A, B, hAB, rfl, kb⟩ := hrel
    have hlen : A.length + B.length = B0.length := by rw [← hAB]; simp
    have hl0 := HL0.out
    have hl1 : A0.length < L.length := by omega
    have hl2 : A0.length + A.length < L.length := by omega
    clear hl0
    have HB := hideP kb
    have hz := kb.size
    rcases List.eq_nil_or_concat A with hA | ⟨A', r, hA⟩
    · subst hA
      have hAl : (A0.length : Int) + 1 + (([] : List Wn).length : Int) - 1 = (A0.length : Nat) := by simp
      rw [hAl]
      have hlt : (A0.length : Int) < (L.length : Int) := by omega
      have h0 := HL.out
      have hAB' := HN.out.eq
      have hno := HN.out.yes
      have hrr := HRF.out r0 (by rw [hAB']; simp)
      rw [hAB'] at h0
      obtain ⟨g, o, rfl, hg, hc, _⟩ := Ws.at h0
      have hcw := hc.keep kb (by omega)
      have hgl : g < wr.heap.size := by omega
      have RR := hideP (ws_rect (lo := 0) (hi := 0) (A := []) (B := []) hcw)
      have a5 := hcw.seven.2.2.2.2.2.1
      clear h0 hc hAB hAB' kb hcw hAl HL HN HRF
      obtain ⟨ri, rx, ry, rp, rh, rm, b⟩ := r0
      simp only [hitW, Bool.and_eq_true] at hno
      simp only at RR a5 hrr
      obtain ⟨rfl, hno'⟩ := hno
      have HH := l2H_any g (o + A0.length * 7 + 1) rx ry rp rh p q wr RR.out hrr
      rw [hno'] at HH
      have HH' := hideP HH
      clear RR HH hno' hrr
      go_wp2_with fail
      refine Calls.mono HH'.out ?_
      rintro e w2 ⟨rfl, k2⟩
      have HB2 := hideP (HB.out.trans (k2.mono hz))
      clear k2 HH'
      go_wp2
      go_returns
      exact ⟨rfl, HB2.out⟩
    · rw [List.concat_eq_append] at hA
      subst hA
      obtain ⟨C, hC⟩ : ∃ C, A0 ++ r0 :: A' = C := ⟨_, rfl⟩
      have HCl := hideP (show C.length = A0.length + 1 + A'.length by rw [← hC]; simp; omega)
      have hAl : (A0.length : Int) + 1 + (((A' ++ [r]).length : Nat) : Int) - 1 = (C.length : Nat) := by rw [HCl.out]; simp; omega
      rw [hAl]
      have hlt : (C.length : Int) < (L.length : Int) := by rw [HCl.out]; simp at hl2; omega
      have h0 := HL.out
      have hAB' : L = C ++ r :: B := by rw [HN.out.eq, ← hAB, ← hC]; simp
      have hno := HN.out.no r (by rw [← hAB]; simp)
      have hrr := HRF.out r (by rw [hAB']; simp)
      rw [hAB'] at h0
      obtain ⟨g, o, rfl, hg, hc, _⟩ := Ws.at h0
      have hcw := hc.keep kb (by omega)
      have hgl : g < wr.heap.size := by omega
      have RR := hideP (ws_rect (lo := 0) (hi := 0) (A := []) (B := []) hcw)
      have a5 := hcw.seven.2.2.2.2.2.1
      have HAB := hideP hAB
      clear h0 hc hAB hAB' kb hcw hAl HL HN HRF
      obtain ⟨ri, rx, ry, rp, rh, rm, b⟩ := r
      simp only [hitW] at hno
      simp only at RR a5 hrr
      cases rm
      · clear RR hno
        go_wp2
        go_roundw
        case rel => exact ⟨A', ⟨ri, rx, ry, rp, rh, false, b⟩ :: B, by rw [← HAB.out]; simp, by rw [HCl.out]; go_num, HB.out⟩
        case measure => simp [intOf]
      · have hno' : inB rx ry rp rh p q = false := by simpa using hno
        have HH := l2H_any g (o + C.length * 7 + 1) rx ry rp rh p q wr RR.out hrr
        rw [hno'] at HH
        have HH' := hideP HH
        clear RR hno HH hno' hrr
        go_wp2_with fail
        refine Calls.mono HH'.out ?_
        rintro e w2 ⟨rfl, k2⟩
        have HB2 := hideP (HB.out.trans (k2.mono hz))
        clear k2 HH'
        go_wp2
        go_roundw
        case rel => exact ⟨A', ⟨ri, rx, ry, rp, rh, true, b⟩ :: B, by rw [← HAB.out]; simp, by rw [HCl.out]; go_num, HB2.out⟩
        case measure => simp [intOf]
end Go.Proofs.Ytbagloapclgpnaa
