/- Frames marked, and held behind it. -/
import Derived.Test.YtbicpfnakhhnlaaMk1
namespace Go.Proofs.Ytbicpfnakhhnlaa
open Go.RowKit
set_option linter.unusedVariables false

theorem Far.behind {lo hi : Nat} {w w1 w2 : World} (k : Below w.heap.size w w1) (f : Far lo hi w1 w2) : Far lo hi w w2 := (Far.of_below k).trans f

set_option maxHeartbeats 1000000 in
theorem markBB_any (lo hi : Nat) (so : Option Addr) (sc : Nat) (bs Z : List Bd) (k : Int) (w : World) (hB : Bods w lo hi (bs ++ Z)) (hS : Spn w lo hi so bs) (h1 : hi ≤ w.heap.size) (hn : bs.length ≤ 1000) (ht : totB bs ≤ 1000) (k0 : 0 ≤ k) (k1 : k ≤ 1048576) :
    Calls Try.prog 79 #[.slice so bs.length sc, .int .i64 k] w fun e w' => e = .returned (.int .i64 (k + totB bs)) ∧ Far lo hi w w' ∧ Bods w' lo hi (mkAll k bs ++ Z) ∧ Spn w' lo hi so bs := by
  have hn' : (bs.length : Int) ≤ 1000 := by omega
  have ht' : (totB bs : Int) ≤ 1000 := by omega
  have HB := hideP hB
  have HS := hideP hS
  clear hB hS
  go_enter Try.func79, Try.ntmps79
  go_wp2
  go_loopw [1, 5] (fun q i wr => ∃ X Y : List Bd, X ++ Y = bs ∧ i = .int .i64 (X.length : Nat) ∧ q = .int .i64 (k + (totB X : Nat)) ∧ Far lo hi w wr ∧ Bods wr lo hi (mkAll k X ++ (Y ++ Z)) ∧ Spn wr lo hi so bs) (fun _ i _ => bs.length - (intOf i).toNat)
  case atStart => exact ⟨[], bs, rfl, rfl, by simp [totB, tot], Far.refl _ _ _, HB.out, HS.out⟩
  case round =>
    obtain ⟨X, Y, hXY, rfl, rfl, f, B, Sp⟩ := hrel
    have hlen : X.length + Y.length = bs.length := by rw [← hXY]; simp
    have htot : totB X + totB Y = totB bs := by rw [← hXY, totB_app]
    cases Y with
    | cons b Y =>
      have hlt : (X.length : Int) < (bs.length : Int) := by simp at hlen; omega
      have hlt' : X.length < bs.length := by omega
      have hget : bs[X.length] = b := by simp [← hXY]
      have hbt : b.L.length ≤ 1000 := by have := totB_mem (b := b) (bs := bs) (by rw [← hXY]; simp); omega
      have htb : totB (X ++ [b]) = totB X + b.L.length := by rw [totB_app, totB_one]
      rcases Sp with e | ⟨gs, rfl, _, hg, hc⟩
      · rw [e] at hlt'; simp at hlt'
      have a0 := hc X.length hlt'
      rw [hget] at a0
      unfold Bd.val at a0
      have hXt : (totB X : Int) ≤ 1000 := by omega
      have MK := mark_one lo hi (mkAll k X) (Y ++ Z) b (k + (totB X : Int)) wr B (by have := f.size; omega) (by omega) (by omega) (by omega)
      have MK' := hideP MK
      have SP' : Hid (Spn wr lo hi (some ⟨gs, 0, none⟩) bs) := hideP (.inr ⟨gs, rfl, by assumption, hg, hc⟩)
      have F' := hideP f
      have HXY := hideP hXY
      have HTB := hideP htb
      clear MK hc B hget hXY f htb HB HS hlen htot
      generalize hN : b.L.length = m at *
      generalize b.ao = x1 at *
      generalize b.cap = x2 at *
      go_wp2_with fail
      refine Calls.mono MK'.out ?_
      rintro e w1 ⟨rfl, f1, B1, S1⟩
      have F1 := hideP (F'.out.trans f1)
      have B1' := hideP B1
      have S1' := hideP (S1 _ _ SP'.out)
      clear f1 B1 S1
      go_wp2
      go_roundw
      case rel =>
        refine ⟨X ++ [b], Y, (List.append_assoc X [b] Y).trans HXY.out, by simp, ?_, F1.out, ?_, S1'.out⟩
        · rw [HTB.out]; go_num
        · rw [mkAll_app, mkAll_one, List.append_assoc]; exact B1'.out
      case measure => simp [intOf]; omega
    | nil =>
      have hX : X = bs := by simpa using hXY
      subst hX
      have F' := hideP f
      have B' := hideP B
      have S' := hideP Sp
      clear f B Sp HB HS hXY hlen htot
      go_wp2
      go_returns
      exact ⟨rfl, F'.out, B'.out, S'.out⟩

set_option maxHeartbeats 1000000 in
theorem heldBB_any (lo hi : Nat) (so : Option Addr) (sc : Nat) (bs : List Bd) (k : Int) (w : World) (hB : ∀ b ∈ mkAll k bs, b.on w) (hS : Spn w lo hi so bs) (hn : bs.length ≤ 1000) (ht : totB bs ≤ 1000) (k0 : 0 ≤ k) (k1 : k ≤ 1048576) :
    Calls Try.prog 80 #[.slice so bs.length sc, .int .i64 k] w fun e w' => e = .returned (.int .i64 (k + totB bs)) ∧ w' = w := by
  have hn' : (bs.length : Int) ≤ 1000 := by omega
  have ht' : (totB bs : Int) ≤ 1000 := by omega
  have HB := hideP hB
  have HS := hideP hS
  clear hB hS
  go_enter Try.func80, Try.ntmps80
  go_wp2
  go_loop [1, 5] (fun q i => ∃ X Y : List Bd, X ++ Y = bs ∧ i = .int .i64 (X.length : Nat) ∧ q = .int .i64 (k + (totB X : Nat))) (fun _ i => bs.length - (intOf i).toNat)
  case atStart => exact ⟨[], bs, rfl, rfl, by simp [totB, tot]⟩
  case round =>
    obtain ⟨X, Y, hXY, rfl, rfl⟩ := hrel
    have hlen : X.length + Y.length = bs.length := by rw [← hXY]; simp
    have htot : totB X + totB Y = totB bs := by rw [← hXY, totB_app]
    cases Y with
    | cons b Y =>
      have hlt : (X.length : Int) < (bs.length : Int) := by simp at hlen; omega
      have hlt' : X.length < bs.length := by omega
      have hget : bs[X.length] = b := by simp [← hXY]
      have hbt : b.L.length ≤ 1000 := by have := totB_mem (b := b) (bs := bs) (by rw [← hXY]; simp); omega
      have htb : totB (X ++ [b]) = totB X + b.L.length := by rw [totB_app, totB_one]
      rcases HS.out with e | ⟨gs, rfl, _, hg, hc⟩
      · rw [e] at hlt'; simp at hlt'
      have a0 := hc X.length hlt'
      rw [hget] at a0
      unfold Bd.val at a0
      have hXt : (totB X : Int) ≤ 1000 := by omega
      have hon : (mark1 (k + (totB X : Int)) b).on w := HB.out _ (by rw [← hXY, mkAll_app]; simp [mkAll])
      have MK := held_one_body (k + (totB X : Int)) b w hon (by omega) (by omega) (by omega)
      have MK' := hideP MK
      have HXY := hideP hXY
      have HTB := hideP htb
      clear MK hc hget hXY htb HB HS hlen htot hon
      generalize hN : b.L.length = m at *
      generalize b.ao = x1 at *
      generalize b.cap = x2 at *
      have hneg : ¬ (k + (totB X : Int) + (m : Int) < 0) := by omega
      go_wp2_with fail
      refine Calls.mono MK'.out ?_
      rintro e w1 ⟨rfl, hw1⟩
      subst w1
      go_wp2
      go_round
      case rel =>
        refine ⟨X ++ [b], Y, (List.append_assoc X [b] Y).trans HXY.out, by simp, ?_⟩
        rw [HTB.out]; go_num
      case measure => simp [intOf]; omega
    | nil =>
      have hX : X = bs := by simpa using hXY
      subst hX
      clear HB HS hXY hlen htot
      go_wp2
      go_returns
      exact ⟨rfl, rfl⟩

set_option maxHeartbeats 800000 in
theorem markF_any (lo hi : Nat) (so : Option Addr) (sc : Nat) (bs : List Bd) (r : Bd) (n k : Int) (w : World) (F : Frm w lo hi so bs r) (hn : bs.length ≤ 1000) (ht : totB bs ≤ 1000) (hr : r.L.length ≤ 1000) (k0 : 0 ≤ k) (k1 : k ≤ 1000000) :
    Calls Try.prog 58 #[.agg #[.slice so bs.length sc, .int .i64 n, .slice r.ao r.L.length r.cap], .int .i64 k] w fun e w' => e = .returned (.int .i64 (k + totB bs + r.L.length)) ∧ Far lo hi w w' ∧ Bods w' lo hi (mkAll k bs ++ [mark1 (k + totB bs) r]) ∧ Spn w' lo hi so bs := by
  have hh := F.hs
  have HF := hideP F
  clear F
  have ht' : (totB bs : Int) ≤ 1000 := by omega
  have MB := fun w1 (kk : Below w.heap.size w w1) => markBB_any lo hi so sc bs [r] k w1 (HF.out.bods.keep kk hh) (HF.out.spine.keep kk hh) (by have := kk.size; omega) hn ht k0 (by omega)
  have MO := fun w1 (B : Bods w1 lo hi (mkAll k bs ++ [r])) (h : hi ≤ w1.heap.size) => mark_one lo hi (mkAll k bs) [] r (k + (totB bs : Int)) w1 B h (by omega) (by omega) (by omega)
  have MB' := hideP MB
  have MO' := hideP MO
  clear MB MO
  generalize hA : bs.length = c1 at *
  generalize r.L.length = c3 at *
  generalize r.ao = x1 at *
  generalize r.cap = x3 at *
  generalize totB bs = t at *
  clear hA
  go_enter Try.func58, Try.ntmps58
  go_wp2_with fail
  refine Calls.mono (MB'.out _ (by go_grown)) ?_
  rintro e w1 ⟨rfl, f1, B1, S1⟩
  have F1 : Hid (Far lo hi w w1) := hideP (Far.behind (by go_grown) f1)
  have X1 : R3 w1 w.heap.size (.slice so c1 sc) (.int .i64 n) (.slice x1 c3 x3) := R3.far ⟨by simp, by simp, by simp, by simp, by simp, by simp, by simp⟩ f1 (.inr hh)
  have B1' := hideP B1
  have S1' := hideP S1
  have n1 : hi ≤ w1.heap.size := by have := F1.out.size; omega
  clear f1 B1 S1
  obtain ⟨a0, a1, a2, a3, a4, a5, a6⟩ := X1
  go_wp2_with fail
  refine Calls.mono (MO'.out _ B1'.out n1) ?_
  rintro e w2 ⟨rfl, f2, B2, S2⟩
  have F2 := hideP (F1.out.trans f2)
  have B2' := hideP B2
  have S2' := hideP (S2 _ _ S1'.out)
  clear f2 B2 S2 a0 a1 a2 a3 a4 a5
  go_wp2
  go_returns
  exact ⟨rfl, F2.out, B2'.out, S2'.out⟩

set_option maxHeartbeats 800000 in
theorem markFR_any (lo hi : Nat) (so : Option Addr) (sc : Nat) (bs : List Bd) (r : Bd) (c n k : Int) (w : World) (F : Frm w lo hi so bs r) (hn : bs.length ≤ 1000) (ht : totB bs ≤ 1000) (hr : r.L.length ≤ 1000) (k0 : 0 ≤ k) (k1 : k ≤ 1000000) :
    Calls Try.prog 28 #[.agg #[.int .i64 c, .slice so bs.length sc, .int .i64 n, .slice r.ao r.L.length r.cap], .int .i64 k] w fun e w' => e = .returned (.int .i64 (k + totB bs + r.L.length)) ∧ Far lo hi w w' ∧ Bods w' lo hi (mkAll k bs ++ [mark1 (k + totB bs) r]) ∧ Spn w' lo hi so bs := by
  have hh := F.hs
  have HF := hideP F
  clear F
  have ht' : (totB bs : Int) ≤ 1000 := by omega
  have MB := fun w1 (kk : Below w.heap.size w w1) => markF_any lo hi so sc bs r n k w1 (HF.out.keep kk hh) hn ht hr k0 k1
  have MB' := hideP MB
  clear MB
  generalize bs.length = c1 at *
  generalize r.L.length = c3 at *
  generalize r.ao = x1 at *
  generalize r.cap = x3 at *
  generalize totB bs = t at *
  go_enter Try.func28, Try.ntmps28
  go_wp2_with fail
  refine Calls.mono (MB'.out _ (by go_grown)) ?_
  rintro e w1 ⟨rfl, f1, B1, S1⟩
  have F1 : Hid (Far lo hi w w1) := hideP (Far.behind (by go_grown) f1)
  have B1' := hideP B1
  have S1' := hideP S1
  clear f1 B1 S1
  go_wp2
  go_returns
  exact ⟨rfl, F1.out, B1'.out, S1'.out⟩

/-- Frames marked from k on. -/
structure Mkd (w : World) (lo hi : Nat) (so : Option Addr) (bs : List Bd) (r : Bd) (k : Int) : Prop where
  bods : Bods w lo hi (mkAll k bs ++ [mark1 (k + totB bs) r])
  spine : Spn w lo hi so bs
theorem Mkd.keep {w w' : World} {lo hi B : Nat} {so : Option Addr} {bs : List Bd} {r : Bd} {k : Int} (h : Mkd w lo hi so bs r k) (kk : Below B w w') (hb : hi ≤ B) : Mkd w' lo hi so bs r k := ⟨h.bods.keep kk hb, h.spine.keep kk hb⟩

set_option maxHeartbeats 800000 in
theorem heldF_any (lo hi : Nat) (so : Option Addr) (sc : Nat) (bs : List Bd) (r : Bd) (n k : Int) (w : World) (F : Mkd w lo hi so bs r k) (hh : hi ≤ w.heap.size) (hn : bs.length ≤ 1000) (ht : totB bs ≤ 1000) (hr : r.L.length ≤ 1000) (k0 : 0 ≤ k) (k1 : k ≤ 1000000) :
    Calls Try.prog 59 #[.agg #[.slice so bs.length sc, .int .i64 n, .slice r.ao r.L.length r.cap], .int .i64 k] w fun e w' => e = .returned (.int .i64 (k + totB bs + r.L.length)) ∧ Below w.heap.size w w' := by
  have HF := hideP F
  clear F
  have ht' : (totB bs : Int) ≤ 1000 := by omega
  have MB := fun w1 (kk : Below w.heap.size w w1) => heldBB_any lo hi so sc bs k w1 (fun b m => (HF.out.keep kk hh).bods.each b (by simp [m])) (HF.out.spine.keep kk hh) hn ht k0 (by omega)
  have MO := fun w1 (kk : Below w.heap.size w w1) => held_one_body (k + (totB bs : Int)) r w1 ((HF.out.keep kk hh).bods.each _ (by simp)) (by omega) (by omega) (by omega)
  have MB' := hideP MB
  have MO' := hideP MO
  clear MB MO
  have g1 : ¬ (k + (totB bs : Int) < 0) := by omega
  have g2 : ¬ (k + (totB bs : Int) + (r.L.length : Int) < 0) := by omega
  generalize bs.length = c1 at *
  generalize r.L.length = c3 at *
  generalize r.ao = x1 at *
  generalize r.cap = x3 at *
  generalize totB bs = t at *
  go_enter Try.func59, Try.ntmps59
  go_wp2_with fail
  refine Calls.mono (MB'.out _ (by go_grown)) ?_
  rintro e w1 ⟨rfl, hw1⟩
  subst w1
  go_wp2_with fail
  refine Calls.mono (MO'.out _ (by go_grown)) ?_
  rintro e w1 ⟨rfl, hw1⟩
  subst w1
  go_wp2
  go_returns
  exact ⟨rfl, by go_grown⟩

set_option maxHeartbeats 800000 in
theorem heldFR_any (lo hi : Nat) (so : Option Addr) (sc : Nat) (bs : List Bd) (r : Bd) (c n k : Int) (w : World) (F : Mkd w lo hi so bs r k) (hh : hi ≤ w.heap.size) (hn : bs.length ≤ 1000) (ht : totB bs ≤ 1000) (hr : r.L.length ≤ 1000) (k0 : 0 ≤ k) (k1 : k ≤ 1000000) :
    Calls Try.prog 29 #[.agg #[.int .i64 c, .slice so bs.length sc, .int .i64 n, .slice r.ao r.L.length r.cap], .int .i64 k] w fun e w' => e = .returned (.int .i64 (k + totB bs + r.L.length)) ∧ Below w.heap.size w w' := by
  have HF := hideP F
  clear F
  have MB := fun w1 (kk : Below w.heap.size w w1) => heldF_any lo hi so sc bs r n k w1 (HF.out.keep kk hh) (by have := kk.size; omega) hn ht hr k0 k1
  have MB' := hideP MB
  clear MB
  have g2 : ¬ (k + (totB bs : Int) + (r.L.length : Int) < 0) := by omega
  generalize bs.length = c1 at *
  generalize r.L.length = c3 at *
  generalize r.ao = x1 at *
  generalize r.cap = x3 at *
  generalize totB bs = t at *
  go_enter Try.func29, Try.ntmps29
  go_wp2_with fail
  refine Calls.mono (MB'.out _ (by go_grown)) ?_
  rintro e w1 ⟨rfl, k1⟩
  have K1 : Hid (Below w.heap.size w w1) := hideP (Below.trans (by go_grown) (k1.mono (by simp)))
  clear k1
  go_wp2
  go_returns
  exact ⟨rfl, K1.out⟩

end Go.Proofs.Ytbicpfnakhhnlaa
