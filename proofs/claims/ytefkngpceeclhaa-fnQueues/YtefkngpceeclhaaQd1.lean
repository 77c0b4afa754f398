/- Messages drawn. -/
import Derived.Test.YtefkngpceeclhaaDrawQ
import Derived.Test.YtefkngpceeclhaaPu6
namespace Go.Proofs.Ytefkngpceeclhaa
open Go.RowKit
set_option linter.unusedVariables false
attribute [local go_sem] growUpon growAt

theorem Turn.asFar {b : Nat} {w w' : World} (h : Turn b w w') : Far b (b + 1) w w' := ⟨h.os, h.tape, h.output, h.size, fun q hq hd => h.block q hq (by omega)⟩
theorem Far.asGrown {b : Nat} {w w' : World} (h : Far b (b + 1) w w') : w.grownBy w' (some b) := ⟨h.os, h.tape, h.output, h.size, fun q hq hd => h.block q hq (by
  have : q ≠ b := fun e => hd (by rw [e])
  omega)⟩
theorem OwnM.far1 {w w' : World} {base b : Nat} {so : Option Addr} {sc : Nat} {L : List Mg} (h : OwnM w base so sc L) (f : Far b (b + 1) w w') (hb : b < base) : OwnM w' base so sc L := by
  refine ⟨World.ownsRow.kept h.row f.asGrown ?_, h.z⟩
  cases hv : Value.ownBlock (.slice so L.length sc) with
  | none => exact .inl rfl
  | some q =>
    refine .inr fun e => ?_
    injection e with e
    have := (World.ownsRow.lt h.row q hv).1
    omega
theorem Lin.far1 {w w' : World} {base b : Nat} {so : Option Addr} {sc : Nat} {L : List Mg} (h : Lin w base so sc L) (f : Far b (b + 1) w w') (hb : b < base) : Lin w' base so sc L :=
  ⟨h.own.far1 f hb, (h.bods.far f (.inr (by omega))).wide (Nat.le_refl _) f.size⟩

/-- A message was drawn. -/
def DrM (w : World) (B b : Nat) (a : Option Addr) (len cap : Nat) (f : Nat → Int) (t : Int) (e : Ending) (w' : World) : Prop :=
  ∃ (k : Int) (d : Bd) (D : List Int) (t' : Int), e = .returned (.agg #[.int .i64 k, .slice d.ao D.length d.cap]) ∧ d.L = D ∧ 1 ≤ k ∧ k ≤ 7 ∧ D.length ≤ 3 ∧ byts D ∧ Turn b w w' ∧ 0 ≤ t' ∧ t' ≤ t + 10 ∧ Src w' B b a len cap f t' ∧ NewB w w' D d

set_option maxRecDepth 100000 in
set_option maxHeartbeats 2000000 in
theorem drawM_any (w : World) (B b : Nat) (a : Option Addr) (len cap : Nat) (f : Nat → Int) (t : Int) (S : Src w B b a len cap f t) (t0 : 0 ≤ t) (t1 : t ≤ 80000) :
    Calls Try.prog 42 #[.pointer (some ⟨b, 0, none⟩)] w (DrM w B b a len cap f t) := by
  have hlt := S.lt
  have ka := kal3 w (.cells #[.int .i64 0, .slice none 0 0] 28)
  have S1 := hideP (S.grow ka)
  have Z1 := hideP (rb_new w (.int .i64 0) (.slice none 0 0) 28)
  have T1 := hideP (Turn.of_below (b := b) ka)
  clear S ka
  go_enter Try.func42, Try.ntmps42
  go_wp2_with fail
  have n1 : w.heap.size < (w.alloc (.cells #[.int .i64 0, .slice none 0 0] 28)).heap.size := by simp
  generalize w.alloc (.cells #[.int .i64 0, .slice none 0 0] 28) = w1 at *
  refine Calls.mono (next_any w1 B b a len cap f t 7 S1.out t0 (by omega) (by omega) (by omega)) ?_
  rintro e w2 ⟨r, rfl, r0, r7, h2, S2⟩
  have S2' := hideP S2
  have T2 := hideP (T1.out.trans h2)
  have Z2 := hideP (Z1.out.far h2.asFar (by omega))
  have n2 := h2.size
  clear S2 h2 S1 T1 Z1
  go_wp2_with fail
  refine Calls.mono (next_any w2 B b a len cap f (t + 1) 4 S2'.out (by omega) (by omega) (by omega) (by omega)) ?_
  rintro e w3 ⟨q, rfl, q0, q4, h3, S3⟩
  have S3' := hideP S3
  have T3 := hideP (T2.out.trans h3)
  have Z3 := hideP (Z2.out.far h3.asFar (by omega))
  have n3 := h3.size
  obtain ⟨n, rfl⟩ : ∃ n : Nat, q = (n : Int) := ⟨q.toNat, by omega⟩
  clear S3 h3 S2' T2 Z2
  go_wp2_with fail
  refine Calls.mono (some_any w3 B b a len cap f (t + 1 + 1) n S3'.out (by omega) (by omega) (by omega)) ?_
  rintro e w4 ⟨ao, ca, D, rfl, hD, hby, h4, S4, O4⟩
  have S4' := hideP S4
  have T4 := hideP (T3.out.trans h4)
  have Z4 := Z3.out.far h4.asFar (by omega)
  have n4 := h4.size
  obtain ⟨g, N4⟩ := NewB.of_own O4
  have HN := hideP N4
  have HBY := hideP hby
  have hDl : D.length ≤ 3 := by omega
  have hnn : Hid (D.length = n) := hideP hD
  clear S4 h4 S3' T3 Z3 O4 N4 hby hD
  obtain ⟨p0, p1, p2, p3, p4⟩ := Z4
  go_wp2
  refine bodyPost_ret (v := .agg #[.int .i64 (1 + r), .slice ao D.length ca]) (by simp [results, Try.results42, go_sem, *]) rfl ⟨1 + r, ⟨ao, ca, g, D⟩, D, t + 1 + 1 + n, rfl, rfl, by omega, by omega, hDl, HBY.out, ?_, by omega, by omega, ?_, ?_⟩
  · repeat' (first | (with_reducible exact Turn.refl _ _) | (with_reducible refine Turn.setCell ?_ ?_ _) | (with_reducible refine Turn.alloc ?_ _) | (with_reducible refine Turn.drew ?_) | (with_reducible refine Turn.trans ?_ (by assumption)) | go_size)
    exact T4.out
  · repeat' (first | (with_reducible exact S4'.out) | refine Src.store ?_ _ _ (by dsimp only; omega))
  · have hg : D ≠ [] → w3.heap.size ≤ g ∧ g < w4.heap.size := HN.out.inn
    refine ⟨rfl, ?_, fun e => ?_⟩
    · repeat' (first | (with_reducible exact HN.out.on) | refine Bd.on_set ?_ _ _ (fun e => by have := (hg e).1; show w.heap.size ≠ g; omega))
    · have := hg e
      simp only [World.size_setCell]
      show w.heap.size ≤ g ∧ g < w4.heap.size
      omega
end Go.Proofs.Ytefkngpceeclhaa
