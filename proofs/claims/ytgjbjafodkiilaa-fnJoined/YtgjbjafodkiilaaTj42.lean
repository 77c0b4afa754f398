/- What is drawn of bytes in pieces: a rest and a stream. FnJoined: the bytes that CountFrames is tried with. -/
import Derived.Test.YtgjbjafodkiilaaTj40
import Derived.Test.YtgjbjafodkiilaaTj10
namespace Go.Proofs.Ytgjbjafodkiilaa
open Go.RowKit
set_option linter.unusedVariables false
attribute [local go_sem] growUpon growAt

theorem Row.turn {k : IntKind} {w w' : World} {lo hi b : Nat} {ao : Option Addr} {L : List Int} (h : Row k w lo hi ao L) (t : Turn b w w') (hb : b < lo) (hs : hi ≤ w.heap.size) : Row k w' lo hi ao L := by
  rcases h with h | ⟨g, o, ha, h1, h2, hc⟩
  · exact .inl h
  · exact .inr ⟨g, o, ha, h1, h2, fun i hi => (t.cell g _ (by omega) (by omega)).trans (hc i hi)⟩
theorem Src.newQ (w : World) (a : Option Addr) (len cap : Nat) (f : Nat → Int) (T : TypeId) (hB : Bytes w w.heap.size a len f) (hl : len ≤ 1048576) : Src (w.alloc (.cells #[.slice a len cap, .int .i64 0] T)) w.heap.size w.heap.size a len cap f 0 :=
  ⟨by simp, Nat.le_refl _, by simp [go_sem], by simp [go_sem], by simp [go_sem], hB.stay (Nat.le_refl _) (Turn.of_below (b := w.heap.size) ((Below.refl _ _).alloc (Nat.le_refl _) _)) (Nat.le_refl _), hl⟩

/-- A rest and a stream were drawn. -/
def CutQ (w : World) (e : Ending) (w' : World) : Prop :=
  ∃ (ao : Option Addr) (ca : Nat) (L : List Int) (bo : Option Addr) (cb : Nat) (M : List Int), e = .returned (.tuple #[.slice ao L.length ca, .slice bo M.length cb]) ∧ byts L ∧ byts M ∧ L.length ≤ 100 ∧ M.length ≤ 301 ∧ M.length ≤ cb ∧ Adr bo cb ∧ Below w.heap.size w w' ∧ Row .u8 w' w.heap.size w'.heap.size ao L ∧ Row .u8 w' w.heap.size w'.heap.size bo M

set_option maxRecDepth 100000 in
set_option maxHeartbeats 2000000 in
theorem drawCut_any (w : World) (a : Option Addr) (len cap : Nat) (f : Nat → Int) (hB : Bytes w w.heap.size a len f) (hl : len ≤ 1048576) :
    Calls Try.prog 19 #[.slice a len cap] w (CutQ w) := by
  have S0 := hideP (Src.newQ w a len cap f 65 hB hl)
  clear hB
  have K0 : Hid (Below w.heap.size w (w.alloc (.cells #[.slice a len cap, .int .i64 0] 65))) := hideP ((Below.refl _ _).alloc (Nat.le_refl _) _)
  obtain ⟨i0, hi0, hz0, hz1, hz2⟩ := info_parts Try.infoB
  go_enter Try.func19, Try.ntmps19
  go_wp2_with (first | (go_at_call 14; go_in))
  have n0 : w.heap.size < (w.alloc (.cells #[.slice a len cap, .int .i64 0] 65)).heap.size := by simp
  generalize w.alloc (.cells #[.slice a len cap, .int .i64 0] 65) = w1 at *
  refine Calls.mono (drawRest_any w1 _ _ a len cap f 0 S0.out (by omega) (by omega)) ?_
  rintro e w2 ⟨ao, ca, L, u, rfl, hBL, hLl, hLc, _, T2, u0, u1, S2, R2⟩
  have n2 := T2.size
  have HT2 := hideP T2
  have HS2 := hideP S2
  have HR2 := hideP R2
  have HBL := hideP hBL
  clear T2 S2 R2 hBL S0
  go_wp2_with fail
  refine Calls.mono (chance_any _ _ _ _ _ _ _ _ 30 HS2.out (by omega) (by omega) (by omega) (by omega)) ?_
  rintro e w3 ⟨q, rfl, ht, hs⟩
  have T3 := hideP (HT2.out.trans ht)
  have S3 := hideP hs
  have R3' := hideP (HR2.out.turn ht n0 (Nat.le_refl _))
  have n3 := ht.size
  have K3 : Hid (Below w.heap.size w w3) := hideP (K0.out.trans ⟨T3.out.os, T3.out.tape, T3.out.output, T3.out.size, fun q hq => T3.out.block q (by omega) (by omega)⟩)
  clear ht hs HT2 HS2 HR2 K0
  cases q with
  | true =>
    go_wp2
    refine wp_region_held (S := Kept w3) (by kernel_rfl) ?_
    show wpAnyH _ _ _ _ _ 4 (Array.replicate 4 false) _ (w3).drew
    have hK0 : Kept (w3) (w3).drew := (Below.refl _ _).drew
    generalize hQQ : (Exit.then _ _ : Exit → Act → World → Prop) = QQ
    have hQ : ∀ c a d v w, QQ (.panic c) (Act.put a d v) w → QQ (.panic c) a w := by
      subst hQQ
      intro c a d v w h
      cases d <;> exact h
    refine held_take (i := 0) rfl (by kernel_rfl) (by kernel_rfl) (by kernel_rfl) hQ hK0 (by rfl) ?_
    apply Exists.intro
    refine ⟨fun w1 k1 => ?_, fun K hK => ?_⟩
    · have hc := Kept.cell k1
      go_simp
      first | done | rfl
    go_simp
    refine hK _ ?_
    clear hK K
    refine held_take (i := 2) rfl (by kernel_rfl) (by kernel_rfl) (by kernel_rfl) hQ hK0 (by rfl) ?_
    apply Exists.intro
    refine ⟨fun w1 k1 => ?_, fun K hK => ?_⟩
    · have hc := Kept.cell k1
      go_simp
      first | done | rfl
    go_simp
    refine hK _ ?_
    clear hK K
    refine held_one (i := 1) rfl (by kernel_rfl) (by rfl) ?_
    obtain ⟨w5, hrun, h1, h2⟩ := run_make_full (P := Try.prog) w3.drew w3.heap.size 22 5 i0 (.int .u8 0) 1 Try.underlying22 hi0 hz0 hz1 .i64 .i64 301 (by rw [hz2]; omega) (by unfold maxLen; omega) (by simp)
    have K5 : Below w3.heap.size w3 w5 := hK0.trans ((Below.refl _ w3.drew).grown h2 (by simp) (by simp))
    have O5 : OwnR .u8 5 w5 w3.heap.size (some ⟨w3.heap.size, 0, none⟩) 301 (List.replicate 301 0) := zeros_own h1
    refine wp_of_run (v := .slice (some ⟨w3.heap.size, 0, none⟩) 301 301) (w' := w5) (by go_simp; have hr2 : (Instr.makeSlice 22 (.int .i64 301) (.int .i64 301)).run Try.prog w3.drew = .ok (.slice (some ⟨w3.heap.size, 0, none⟩) 301 301) w5 := hrun; rw [hr2]; rfl) ?_
    refine ⟨K5, ?_⟩
    refine norm_act fun K hK => ?_
    go_simp
    refine hK _ ?_
    clear hK K
    refine held_take (i := 3) rfl (by kernel_rfl) (by kernel_rfl) (by kernel_rfl) hQ K5 (by rfl) ?_
    apply Exists.intro
    refine ⟨fun w1 k1 => ?_, fun K hK => ?_⟩
    · go_simp
      first | done | rfl
    go_simp
    refine hK _ ?_
    clear hK K
    refine wpAnyH_done (by kernel_rfl) ?_ _
    subst hQQ
    have R5 := hideP (R3'.out.keep K5 (by omega))
    have KK := hideP (K3.out.trans (K5.mono (by omega)))
    have O5' := hideP O5
    have n5 := K5.size
    clear hrun h1 h2 K5 O5 hQ hK0
    go_wp2
    refine bodyPost_ret (v := .tuple #[.slice ao L.length ca, .slice (some ⟨w3.heap.size, 0, none⟩) 301 301]) (by simp [results, Try.results19, go_sem, *]) rfl ⟨ao, ca, L, _, 301, List.replicate 301 0, rfl, HBL.out, byts_zero 301, hLl, by simp, by simp, .inr ⟨_, 0, rfl⟩, KK.out, R5.out.wide (by omega) (by omega), O5'.out.wrt.row.wide (by omega) (Nat.le_refl _)⟩
  | false =>
    go_wp2_with fail
    refine Calls.mono (stream_any w3 _ _ a len cap f _ S3.out (by omega) (by omega)) ?_
    rintro e w4 ⟨bo, cb, M, v, rfl, hBM, hMl, hMc, hMa, T4, _, _, _, R4⟩
    have n4 := T4.size
    have KK := hideP (K3.out.trans ⟨T4.os, T4.tape, T4.output, T4.size, fun q hq => T4.block q (by omega) (by omega)⟩)
    have R5 := hideP (R3'.out.turn T4 n0 (by omega))
    have RM := hideP R4
    have HBM := hideP hBM
    clear T4 R4 hBM
    go_wp2
    refine bodyPost_ret (v := .tuple #[.slice ao L.length ca, .slice bo M.length cb]) (by simp [results, Try.results19, go_sem, *]) rfl ⟨ao, ca, L, bo, cb, M, rfl, HBL.out, HBM.out, hLl, by omega, hMc, hMa, KK.out, R5.out.wide (by omega) (by omega), RM.out.wide (by omega) (Nat.le_refl _)⟩

end Go.Proofs.Ytgjbjafodkiilaa

namespace Go.Proofs.Ytgjbjafodkiilaa
open Go.RowKit
set_option linter.unusedVariables false
attribute [local go_sem] growUpon growAt

/-- Bytes were drawn. -/
def CntQ (w : World) (e : Ending) (w' : World) : Prop :=
  ∃ (bo : Option Addr) (cb : Nat) (M : List Int), e = .returned (.slice bo M.length cb) ∧ byts M ∧ M.length ≤ 301 ∧ M.length ≤ cb ∧ Row .u8 w' w.heap.size w'.heap.size bo M ∧ Below w.heap.size w w'

theorem drawCount_any (w : World) (a : Option Addr) (len cap : Nat) (f : Nat → Int) (hB : Bytes w w.heap.size a len f) (hl : len ≤ 1048576) :
    Calls Try.prog 7 #[.slice a len cap] w (CntQ w) := by
  have DC := hideP (drawCut_any w a len cap f hB hl)
  clear hB
  go_enter Try.func7, Try.ntmps7
  go_wp2_with fail
  refine Calls.mono DC.out ?_
  rintro e w1 ⟨ao, ca, L, bo, cb, M, rfl, _, hM, _, hn, hc, _, k1, _, hR⟩
  have HM := hideP hM
  have HR := hideP hR
  have HK := hideP k1
  clear hM hR k1 DC
  go_wp2
  go_returns
  exact ⟨bo, cb, M, rfl, HM.out, hn, hc, HR.out, HK.out⟩
end Go.Proofs.Ytgjbjafodkiilaa
