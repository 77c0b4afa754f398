/- DropWindow by the specification. -/
import Derived.Test.YtcdlcpecnpgjgaaWd7
namespace Go.Proofs.Ytcdlcpecnpgjgaa
open Go.RowKit Go.Maps
set_option linter.unusedVariables false

set_option maxRecDepth 100000 in
set_option maxHeartbeats 1000000 in
theorem sDrop_any (so : Option Addr) (sc : Nat) (L : List Wn) (id : Int) (w : World) (hL : Ws w 0 w.heap.size so L) (hn : L.length + wzs L ≤ 1048576) :
    Calls Try.prog 23 #[.slice so L.length sc, .int .i64 id] w (SAns (askW (L.map Wn.ct) id) 0 (dropP (L.map Wn.ct) id) (dropP (L.map Wn.ct) id).length w) := by
  by_cases hbad : ¬ stF (L.map Wn.ct) = 0 ∨ ∀ v ∈ L, v.i ≠ id
  · have AN := fun w1 (kk : Below w.heap.size w w1) => asked_no 0 w.heap.size so sc L id w1 (hL.keep kk (Nat.le_refl _)) kk.size hn hbad
    have hne := askW_ne hbad
    rw [dropP_no hne]
    obtain ⟨F, hF⟩ : ∃ F, askW (L.map Wn.ct) id = F := ⟨_, rfl⟩
    rw [hF] at AN hne ⊢
    have hne' : (F != 0) = true := by simpa using hne
    have AN' := hideP AN
    clear AN hL hbad hF hne
    go_enter Try.func23, Try.ntmps23
    go_wp2_with fail
    refine Calls.mono (AN'.out _ (by go_grown)) ?_
    rintro e w1 ⟨rfl, k1⟩
    have K1 : Hid (Below w.heap.size w w1) := hideP (Below.trans (by go_grown) (k1.mono (by simp)))
    have X1 : R3 w1 w.heap.size (.int .i64 0) (.int .i64 0) (.slice none 0 0) := R3.keep ⟨by simp, by simp, by simp, by simp, by simp⟩ k1 (by simp)
    clear k1
    go_wp2_with fail
    refine Calls.mono (l7Bad_any F w1) ?_
    rintro e w2 ⟨rfl, k2⟩
    have K2 := hideP (K1.out.trans (k2.mono K1.out.size))
    obtain ⟨x0, x1, x2, x3, x4⟩ := X1.keep k2 X1.lt
    clear k2 X1
    go_wp2
    have K3 := (((K2.out.setCell (p := ⟨w.heap.size, 0, none⟩) (Nat.le_refl _) (.int .i64 F)).setCell (p := ⟨w.heap.size, 1, none⟩) (Nat.le_refl _) (.int .i64 0)).setCell (p := ⟨w.heap.size, 2, none⟩) (Nat.le_refl _) (.slice none 0 0))
    exact bodyPost_ret (v := .agg #[.int .i64 F, .int .i64 0, .slice none 0 0]) (by simp [results, Try.results23, go_sem, *]) rfl (sans_bad K3)
  · obtain ⟨h0, X, r, Y, hf⟩ : stF (L.map Wn.ct) = 0 ∧ ∃ X r Y, Fst id L X r Y := by
      have h1 : stF (L.map Wn.ct) = 0 := Classical.byContradiction fun h => hbad (.inl h)
      exact ⟨h1, (fst_or id L).resolve_left fun h => hbad (.inr h)⟩
    have AY := hideP (fun w1 (kk : Below w.heap.size w w1) => asked_yes 0 w.heap.size so sc L X Y r id w1 (hL.keep kk (Nat.le_refl _)) kk.size hn h0 hf)
    have CP := hideP (fun w1 (kk : Below w.heap.size w w1) => l7Copy_any 0 w.heap.size so sc L w1 (hL.keep kk (Nat.le_refl _)) kk.size hn)
    rw [askW_yes h0 hf, dropP_yes h0 hf]
    have hXl : (X.length : Int) < (L.length : Int) := by rw [hf.eq]; simp; omega
    have hn' : (L.length : Int) ≤ 1048576 := by omega
    have HF := hideP hf
    clear hL hbad h0 hf
    go_enter Try.func23, Try.ntmps23
    go_wp2_with fail
    refine Calls.mono (AY.out _ (by go_grown)) ?_
    rintro e w1 ⟨rfl, k1⟩
    have K1 : Hid (Below w.heap.size w w1) := hideP (Below.trans (by go_grown) (k1.mono (by simp)))
    have X1 : R3 w1 w.heap.size (.int .i64 0) (.int .i64 0) (.slice none 0 0) := R3.keep ⟨by simp, by simp, by simp, by simp, by simp⟩ k1 (by simp)
    have n1 := X1.lt
    clear k1
    go_wp2_with fail
    refine Calls.mono (CP.out w1 K1.out) ?_
    rintro e w2 ⟨s, c, M, rfl, hM, LN, k2⟩
    have K2 := hideP (K1.out.trans (k2.mono K1.out.size))
    have X2 := hideP (X1.keep k2 X1.lt)
    obtain ⟨X', r', Y', hf', e1, e2, e3⟩ := fst_ct HF.out hM
    have hMl := lenW hM
    have hXX := lenW e1
    have hYY := lenW e3
    have hMe := hf'.eq
    subst hMe
    obtain ⟨g, rfl, g1, g2, _⟩ := SpV.at (LN.own.sp vals7)
    have n2 := k2.size
    have WO := l7Without_any w1.heap.size g c L.length X' Y' r' w2 LN k2.size hMl (by omega)
    rw [hXX, hYY] at WO
    rw [hMl]
    have HWO := hideP WO
    have HCT : Hid ((X' ++ Y').map Wn.ct = X.map Wn.ct ++ Y.map Wn.ct) := hideP (by rw [List.map_append, e1, e3])
    have HPL : Hid ((X.map Wn.ct ++ Y.map Wn.ct).length = X.length + Y.length) := hideP (by simp)
    have HML : Hid ((X' ++ Y').length = X.length + Y.length) := hideP (by simp [hXX, hYY])
    clear k2 LN hM hf' e1 e2 e3 WO CP AY HF X1 hMl hXX hYY
    go_wp2_with fail
    refine Calls.mono HWO.out ?_
    rintro e w3 ⟨s3, c3, rfl, LN3, k3⟩
    have Q3 := hideP (LN3.wq vals7 winNe (Nat.le_trans n2 k3.size))
    have K3 := hideP (K2.out.trans (k3.mono K2.out.size))
    obtain ⟨x0, x1, x2, x3, x4⟩ := X2.out.keep k3 X2.out.lt
    clear k3 LN3 HWO X2 K2
    go_wp2
    have K5 := ((K3.out.setCell (p := ⟨w.heap.size, 0, none⟩) (Nat.le_refl _) (.int .i64 0)).setCell (p := ⟨w.heap.size, 1, none⟩) (Nat.le_refl _) (.int .i64 0)).setCell (p := ⟨w.heap.size, 2, none⟩) (Nat.le_refl _) (.slice s3 (X.length + Y.length) c3)
    have Q5 := (((Q3.out.set ⟨w.heap.size, 0, none⟩ (.int .i64 0) n1).set ⟨w.heap.size, 1, none⟩ (.int .i64 0) n1).set ⟨w.heap.size, 2, none⟩ (.slice s3 (X.length + Y.length) c3) n1).wide K1.out.size (Nat.le_refl _) (by simp)
    refine bodyPost_ret (v := .agg #[.int .i64 0, .int .i64 0, .slice s3 (X.length + Y.length) c3]) (by simp [results, Try.results23, go_sem, *]) rfl ⟨s3, c3, _, by rw [HPL.out], HCT.out, by rw [HPL.out]; exact HML.out, ?_, K5⟩
    simpa using Q5
end Go.Proofs.Ytcdlcpecnpgjgaa
