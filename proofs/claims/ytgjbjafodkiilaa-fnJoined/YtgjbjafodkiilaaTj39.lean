/- What is drawn of bytes in pieces: a rest, a stream. -/
import Derived.Test.YtgjbjafodkiilaaTj36
import Derived.Test.YtgjbjafodkiilaaTj13
namespace Go.Proofs.Ytgjbjafodkiilaa
open Go.RowKit
set_option linter.unusedVariables false
attribute [local go_sem high] sl_from sl_upto

theorem byts_cons {x : Int} {L : List Int} (h0 : 0 ≤ x) (h1 : x ≤ 255) (h : byts L) : byts (x :: L) := fun i hi => by
  cases i with
  | zero => exact ⟨h0, h1⟩
  | succ i => simpa using h i (by simpa using hi)
theorem byts_appQ {L M : List Int} (h : byts L) (k : byts M) : byts (L ++ M) := fun i hi => by
  by_cases e : i < L.length
  · rw [List.getElem_append_left e]; exact h i e
  · rw [List.getElem_append_right (by omega)]; exact k _ _
theorem byts_all {A : List Int} (h : A.all isB = true) : byts A := fun i hi => by
  have := List.all_eq_true.1 h A[i] (List.getElem_mem _)
  exact isB_yes this
theorem byts_nil : byts [] := fun i hi => by simp at hi
theorem byts_pkL {k : Int} {A D : List Int} (h : rF k A D.length = 0) (hD : byts D) : byts (pkL k A D) := by
  obtain ⟨l1, l2, q1, q2, q3⟩ := rF_lens h
  have hb : bod k A D = k :: (A ++ D) := by unfold bod; simp
  rw [pkL_yes h, hb]
  refine byts_cons (by simp; omega) (by simp; omega) (byts_cons (by omega) (by omega) (byts_appQ (byts_all q3) hD))
theorem pkL_pos {k : Int} {A D : List Int} (h : rF k A D.length = 0) : 2 ≤ (pkL k A D).length := by
  rw [pkL_yes h, List.length_cons, bod_len]; omega

/-- Nil, or somewhere. -/
def Adr (ao : Option Addr) (ca : Nat) : Prop := (ao = none ∧ ca = 0) ∨ ∃ g o, ao = some ⟨g, o, none⟩
theorem OwnR.adr {k : IntKind} {T : TypeId} {w : World} {base : Nat} {ao : Option Addr} {cap : Nat} {L : List Int} (h : OwnR k T w base ao cap L) : Adr ao cap := by
  rcases h.2 with ⟨hx, _⟩ | ⟨g, c', cur, hx, _⟩
  · injection hx with h1 _ h2; exact .inl ⟨h1, h2⟩
  · injection hx with h1; exact .inr ⟨g, 0, h1⟩
/-- Bytes were drawn. -/
def BytQ (w : World) (B b : Nat) (a : Option Addr) (len cap : Nat) (f : Nat → Int) (t : Int) (m n : Nat) (e : Ending) (w' : World) : Prop :=
  ∃ (ao : Option Addr) (ca : Nat) (L : List Int) (t' : Int), e = .returned (.slice ao L.length ca) ∧ byts L ∧ L.length ≤ m ∧ L.length ≤ ca ∧ Adr ao ca ∧ Turn b w w' ∧ 0 ≤ t' ∧ t' ≤ t + n ∧ Src w' B b a len cap f t' ∧ Row .u8 w' w.heap.size w'.heap.size ao L

theorem OwnR.roomQ {k : IntKind} {T : TypeId} {w : World} {base : Nat} {ao : Option Addr} {cap : Nat} {L : List Int} (h : OwnR k T w base ao cap L) : L.length ≤ cap := by
  rcases h.2 with ⟨hx, h0⟩ | ⟨g', cap', cur, hv, _, _, hnc, _⟩
  · injection hx with _ h1 h2; omega
  · cases hv; exact hnc
theorem OwnR.addrQ {k : IntKind} {T : TypeId} {w : World} {base : Nat} {ao : Option Addr} {cap : Nat} {L : List Int} (h : OwnR k T w base ao cap L) (hn : L ≠ []) : ∃ g, ao = some ⟨g, 0, none⟩ := by
  obtain ⟨g, cap', hv, _, _⟩ := World.ownsRow.form h (List.length_pos_iff.2 hn)
  cases hv
  exact ⟨g, rfl⟩

theorem zeros_own {w : World} {base g n : Nat} (h : w.ownsRow base 5 1 (.slice (some ⟨g, 0, none⟩) n n) n (madeCells (Value.int .u8 0).cells (n * 1)).toList) : OwnR .u8 5 w base (some ⟨g, 0, none⟩) n (List.replicate n 0) := by
  have e : (madeCells (Value.int .u8 0).cells (n * 1)).toList = (List.replicate n 0).map (Value.int .u8) := by
    apply List.ext_getElem
    · simp [madeCells, Value.cells]
    · intro i h1 h2
      have hm : i % 1 = 0 := Nat.mod_one i
      simp [madeCells, Value.cells, hm]
  unfold OwnR
  rw [e] at h
  simpa using h
theorem byts_zero (n : Nat) : byts (List.replicate n 0) := fun i hi => by simp

set_option maxRecDepth 100000 in
set_option maxHeartbeats 4000000 in
theorem drawRest_any (w : World) (B b : Nat) (a : Option Addr) (len cap : Nat) (f : Nat → Int) (t : Int) (S : Src w B b a len cap f t) (t0 : 0 ≤ t) (t1 : t ≤ 70000) :
    Calls Try.prog 36 #[.pointer (some ⟨b, 0, none⟩)] w (BytQ w B b a len cap f t 100 30) := by
  have hlt := S.lt
  have DR := hideP (draw3_any w B b a len cap f t 0 S t0 (by omega) (by omega) (by omega))
  clear S
  obtain ⟨i0, hi0, hz0, hz1, hz2⟩ := info_parts Try.infoB
  go_enter Try.func36, Try.ntmps36
  go_wp2_with fail
  refine Calls.mono DR.out ?_
  rintro e w1 ⟨k, ao, ca, A, bo, cb, D, u, rfl, hF, hD, T1, u0, u1, S1, RA, RD, -, -⟩
  have ka : Below w1.heap.size w1 (w1.alloc (.cells #[.int .i64 k, .slice ao A.length ca, .slice bo D.length cb] 42)) := (Below.refl _ _).alloc (Nat.le_refl _) _
  have PK := hideP (sPk_any w.heap.size w1.heap.size w1.heap.size k ao bo ca cb A D (w1.alloc (.cells #[.int .i64 k, .slice ao A.length ca, .slice bo D.length cb] 42)) ⟨by simp, by simp, by simp⟩ (RA.keep ka (Nat.le_refl _)) (RD.keep ka (Nat.le_refl _)) (by simp) (by simp) hF)
  have T2 := hideP (T1.trans (Turn.of_below (b := b) ka))
  have S2 := hideP (S1.grow ka)
  have HB := hideP (byts_pkL hF hD)
  have hP0 := pkL_pos hF
  have hP1 := pkL_len k A D
  have n1 := T1.size
  clear DR T1 S1 RA RD hF hD ka
  go_wp2_with fail
  generalize w1.alloc (.cells #[.int .i64 k, .slice ao A.length ca, .slice bo D.length cb] 42) = w2 at *
  generalize pkL k A D = P at *
  refine Calls.mono PK.out ?_
  rintro e w3 ⟨ap, cp, rfl, O3, k3⟩
  obtain ⟨g, rfl⟩ := O3.addrQ (by intro e; rw [e] at hP0; simp at hP0)
  have hroom := O3.roomQ
  have T3 := hideP (T2.out.trans (Turn.of_below (b := b) k3))
  have S3 := hideP (S2.out.grow k3)
  have n2 := T2.out.size
  have W3 : Hid (Row .u8 w3 w.heap.size w3.heap.size (some ⟨g, 0, none⟩) P) := hideP (O3.wrt.row.wide n2 (Nat.le_refl _))
  have hP0' : (2 : Int) ≤ (P.length : Int) := by omega
  have hP1' : (P.length : Int) ≤ 33 := by omega
  clear O3 k3 T2 S2 PK
  go_wp2_with fail
  refine Calls.mono (next_any _ _ _ _ _ _ _ _ _ S3.out (by omega) (by omega) (by omega) (by omega)) ?_
  rintro e w4 ⟨x, rfl, x0, x1, ht, hs⟩
  have T4 := hideP (T3.out.trans ht)
  have S4 := hideP hs
  have gb : ∀ (h : g < w3.heap.size), Row .u8 w4 w.heap.size w4.heap.size (some ⟨g, 0, none⟩) P := fun h => by
    rcases W3.out with e | ⟨g', o', e, h1, h2, hc⟩
    · exact .inl e
    · cases e
      exact .inr ⟨g, 0, rfl, h1, Nat.lt_of_lt_of_le h2 ht.size, fun i hi => (ht.cell g _ h2 (by omega)).trans (hc i hi)⟩
  have W4 : Hid (Row .u8 w4 w.heap.size w4.heap.size (some ⟨g, 0, none⟩) P) := hideP (gb (by
    rcases W3.out with e | ⟨g', o', e, h1, h2, hc⟩
    · rw [e] at hP0; simp at hP0
    · cases e; exact h2))
  clear ht hs gb T3 S3 W3
  obtain ⟨n, rfl⟩ : ∃ n : Nat, x = n := ⟨x.toNat, by omega⟩
  have hnc : (n : Int) ≤ (cp : Int) := by omega
  go_wp2_with fail
  refine Calls.mono (next_any _ _ _ _ _ _ _ _ 10 S4.out (by omega) (by omega) (by omega) (by omega)) ?_
  rintro e w5 ⟨y, rfl, y0, y1, ht, hs⟩
  have T5 := hideP (T4.out.trans ht)
  have S5 := hideP hs
  have W5 : Hid (Row .u8 w5 w.heap.size w5.heap.size (some ⟨g, 0, none⟩) P) := hideP (by
    rcases W4.out with e | ⟨g', o', e, h1, h2, hc⟩
    · exact .inl e
    · cases e
      exact .inr ⟨g, 0, rfl, h1, Nat.lt_of_lt_of_le h2 ht.size, fun i hi => (ht.cell g _ h2 (by omega)).trans (hc i hi)⟩)
  clear ht hs T4 S4 W4
  by_cases e0 : y = 0
  · subst e0
    go_wp2
    go_returns
    exact ⟨_, cp, P, _, rfl, HB.out, by omega, hroom, .inr ⟨g, 0, rfl⟩, T5.out, by omega, by omega, S5.out, W5.out⟩
  by_cases e1 : y = 1
  · subst e1
    go_wp2_with fail
    refine Calls.mono (pickQ (fun n => 0 ≤ n ∧ n ≤ 255) _ B b a len cap f _ _ _ _ _ rfl (inbL [0, 26, 25] (by simp)) S5.out (by omega) (by omega) (by decide) (by decide)) ?_
    rintro e w6 ⟨z, rfl, ⟨z0, z1⟩, ht, hs⟩
    have T6 := hideP (T5.out.trans ht)
    have S6 := hideP hs
    have hzm : z % 256 = z := by omega
    have n6 := T6.out.size
    clear ht hs T5 S5 W5
    go_wp2
    go_returns
    exact ⟨_, 1, [z], _, rfl, byts_cons z0 z1 byts_nil, by simp, by simp, .inr ⟨_, 0, rfl⟩, T6.out.alloc _, by omega, by omega, S6.out.grow (by go_grown), (OwnR.lit .u8 5 w6 w6.heap.size [z] _ rfl (Nat.le_refl _) (by unfold maxLen; simp)).wrt.row.wide n6 (Nat.le_refl _)⟩
  by_cases e2 : y = 2
  · subst e2
    have n5 := T5.out.size
    go_wp2_with (first | (at_make; refine wpList_make_full _ rfl _ _ 22 rfl w5.heap.size 5 i0 (.int .u8 0) 1 Try.underlying22 hi0 hz0 hz1 .i64 .i64 _ _ 26 rfl rfl rfl rfl (by rw [hz2]; omega) (by unfold maxLen; omega) (Nat.le_refl _) ?_; intro w6 hown6 hgrow6; refine Hid.out ?_) | go_in)
    have O6 := zeros_own hown6
    have K6 : Below w5.heap.size w5 w6 := (Below.refl _ w5).grown hgrow6 (Nat.le_refl _) (by simp)
    have T6 := hideP (T5.out.trans (Turn.of_below (b := b) K6))
    have S6 := hideP (S5.out.grow K6)
    have R6 : Hid (Row .u8 w6 w.heap.size w6.heap.size (some ⟨w5.heap.size, 0, none⟩) (List.replicate 26 0)) := hideP (O6.wrt.row.wide n5 (Nat.le_refl _))
    clear hown6 hgrow6 O6 K6 T5 S5
    refine hideP ?_
    go_wp2
    go_returns
    exact ⟨_, 26, List.replicate 26 0, _, rfl, byts_zero 26, by simp, by simp, .inr ⟨_, 0, rfl⟩, T6.out, by omega, by omega, S6.out, R6.out⟩
  · have d0 : (y == 0) = false := by simp [e0]
    have d1 : (y == 1) = false := by simp [e1]
    have d2 : (y == 2) = false := by simp [e2]
    have HU : Hid (Row .u8 w5 w.heap.size w5.heap.size (some ⟨g, 0, none⟩) (P.take n)) := hideP (W5.out.upto n)
    have hTl : (P.take n).length = n := by simp; omega
    have HTl := hideP hTl
    clear hTl
    go_wp2
    go_returns
    exact ⟨_, cp, P.take n, _, by rw [HTl.out]; rfl, byts_take HB.out n, by rw [HTl.out]; omega, by rw [HTl.out]; omega, .inr ⟨g, 0, rfl⟩, T5.out, by omega, by omega, S5.out, HU.out⟩

end Go.Proofs.Ytgjbjafodkiilaa
