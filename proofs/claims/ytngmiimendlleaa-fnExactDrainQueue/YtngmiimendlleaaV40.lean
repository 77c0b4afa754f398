/- The model's copy of a queue, its push. -/
import Derived.Test.YtngmiimendlleaaV37
import Derived.Test.YtngmiimendlleaaV39
namespace Go.Proofs.Ytngmiimendlleaa
open Go.RowKit
set_option linter.unusedVariables false
attribute [local go_sem] growUpon growAt growUponR growAtR

set_option maxRecDepth 100000 in
set_option maxHeartbeats 1000000 in
theorem copyQ_any (lo hi : Nat) (so : Option Addr) (sc : Nat) (L : List Mg) (v : Bool) (w : World) (hL : Ms w lo hi so L) (hs : hi ≤ w.heap.size) (hn : L.length + mzs L ≤ 1048576) :
    Calls Try.prog 16 #[.agg #[.slice so L.length sc, .bool v]] w fun e w' => ∃ (s : Option Addr) (c : Nat) (M : List Mg), e = .returned (.agg #[.slice s M.length c, .bool v]) ∧ M.map Mg.ct = L.map Mg.ct ∧ Lin w' w.heap.size s c M ∧ Below w.heap.size w w' := by
  have MS := hideP (fun w1 (kk : Below w.heap.size w w1) => msgs_any lo hi so sc L w1 (hL.keep kk hs) (by have := kk.size; omega) hn)
  generalize L.length = n at *
  clear hL hs hn
  go_enter Try.func16, Try.ntmps16
  go_wp2
  have K0 : Hid (Below w.heap.size w ((w.alloc (.cells #[.slice so n sc, .bool v] 28)).alloc (.cells #[.slice none 0 0, .bool false] 28))) := hideP (by go_grown)
  have X0 : Hid (Rb ((w.alloc (.cells #[.slice so n sc, .bool v] 28)).alloc (.cells #[.slice none 0 0, .bool false] 28)) w.heap.size (.slice so n sc) (.bool v)) := hideP ((rb_new w _ _ _).keep (kal3 _ _) (by simp))
  have Y0 : Hid (Rb ((w.alloc (.cells #[.slice so n sc, .bool v] 28)).alloc (.cells #[.slice none 0 0, .bool false] 28)) (w.heap.size + 1) (.slice none 0 0) (.bool false)) := hideP (by have h := rb_new (w.alloc (.cells #[.slice so n sc, .bool v] 28)) (.slice none 0 0) (.bool false) 28; rwa [show (w.alloc (.cells #[.slice so n sc, .bool v] 28)).heap.size = w.heap.size + 1 by simp] at h)
  have n0 : ((w.alloc (.cells #[.slice so n sc, .bool v] 28)).alloc (.cells #[.slice none 0 0, .bool false] 28)).heap.size = w.heap.size + 1 + 1 := by simp
  generalize ((w.alloc (.cells #[.slice so n sc, .bool v] 28)).alloc (.cells #[.slice none 0 0, .bool false] 28)) = W at *
  obtain ⟨p0, p1, p2, p3, p4⟩ := X0.out
  refine wp_region_held (S := fun w' => Stay (· = w.heap.size) W w' ∧ Below w.heap.size W w') (by kernel_rfl) ?_
  show wpAnyH _ _ _ _ _ 7 (Array.replicate 7 false) _ (W).drew
  generalize hQQ : (Exit.then _ _ : Exit → Act → World → Prop) = QQ
  have hQ : ∀ c a d v w, QQ (.panic c) (Act.put a d v) w → QQ (.panic c) a w := by
    subst hQQ
    intro c a d v w h
    cases d <;> exact h
  have S0 : Stay (· = w.heap.size) W W.drew ∧ Below w.heap.size W W.drew := ⟨⟨Nat.le_refl _, fun _ _ _ => rfl⟩, (Below.refl _ _).drew⟩
  refine held_take (i := 0) rfl (by kernel_rfl) (by kernel_rfl) (by kernel_rfl) hQ S0 (by rfl) ?_
  apply Exists.intro
  refine ⟨fun w1 k1 => ?_, fun K hK => ?_⟩
  · have hc := fun o => k1.1.cell w.heap.size o rfl (by omega)
    go_simp
    first | done | rfl
  go_simp
  refine hK _ ?_
  clear hK K
  refine held_take (i := 1) rfl (by kernel_rfl) (by kernel_rfl) (by kernel_rfl) hQ S0 (by rfl) ?_
  apply Exists.intro
  refine ⟨fun w1 k1 => ?_, fun K hK => ?_⟩
  · have hc := fun o => k1.1.cell w.heap.size o rfl (by omega)
    go_simp
    first | done | rfl
  go_simp
  refine hK _ ?_
  clear hK K
  refine held_take (i := 3) rfl (by kernel_rfl) (by kernel_rfl) (by kernel_rfl) hQ S0 (by rfl) ?_
  apply Exists.intro
  refine ⟨fun w1 k1 => ?_, fun K hK => ?_⟩
  · have hc := fun o => k1.1.cell w.heap.size o rfl (by omega)
    go_simp
    first | done | rfl
  go_simp
  refine hK _ ?_
  clear hK K
  refine held_take (i := 4) rfl (by kernel_rfl) (by kernel_rfl) (by kernel_rfl) hQ S0 (by rfl) ?_
  apply Exists.intro
  refine ⟨fun w1 k1 => ?_, fun K hK => ?_⟩
  · have hc := fun o => k1.1.cell w.heap.size o rfl (by omega)
    go_simp
    first | done | rfl
  go_simp
  refine hK _ ?_
  clear hK K
  have YD : Rb W.drew (w.heap.size + 1) (.slice none 0 0) (.bool false) := Y0.out.keep (B := W.heap.size) ((Below.refl _ W).drew) (by omega)
  have KD : Below w.heap.size w W.drew := K0.out.trans S0.2
  clear p0 p1 p2 p3 p4 X0 Y0 K0
  have hsz : W.drew.heap.size = w.heap.size + 1 + 1 := by simp [n0]
  generalize W.drew = w0 at *
  refine held_one (i := 2) rfl (by kernel_rfl) (by rfl) ?_
  refine wp_of_made (L := fun w2 u => ∃ (s : Option Addr) (c : Nat) (M : List Mg), u = .slice s M.length c ∧ M.map Mg.ct = L.map Mg.ct ∧ Lin w2 w0.heap.size s c M) ?_ ?_
  · refine made_calls (by go_simp; first | done | rfl) ((MS.out w0 KD).mono ?_)
    rintro e w2 ⟨s, c, M, rfl, hM, hl, hb⟩
    exact ⟨_, rfl, hb, s, c, M, rfl, hM, hl⟩
  rintro w2 _ hb ⟨s, c, M, rfl, hM, hl⟩
  have Y2 := YD.keep hb (by omega)
  have K2 := KD.trans (hb.mono (by omega))
  have S2 : Stay (· = w.heap.size) W w2 ∧ Below w.heap.size W w2 := ⟨(rel_stay _).trans S0.1 (Stay.of_below hb), S0.2.trans (hb.mono (by omega))⟩
  have n2 := hb.size
  refine ⟨S2, ?_⟩
  refine norm_act fun K hK => ?_
  go_simp
  refine hK _ ?_
  clear hK K
  refine held_one (i := 5) rfl (by kernel_rfl) (by rfl) ?_
  refine wp_of_run (v := .agg #[.slice s M.length c, .bool v]) (w' := w2) (by go_simp; first | done | rfl) ?_
  refine ⟨S2, ?_⟩
  refine norm_act fun K hK => ?_
  go_simp
  refine hK _ ?_
  clear hK K
  obtain ⟨q0, q1, q2, q3, q4⟩ := Y2
  refine held_one (i := 6) rfl (by kernel_rfl) (by rfl) ?_
  refine wp_of_skip (w' := (w2.setCell ⟨w.heap.size + 1, 0, none⟩ (.slice s M.length c)).setCell ⟨w.heap.size + 1, 1, none⟩ (.bool v)) (by go_simp; first | done | rfl) ?_
  refine ⟨⟨⟨by simpa using S2.1.size, fun q hq hq' => ?_⟩, ?_⟩, ?_⟩
  · refine (Below.heap_setCell _ _ _ q (by dsimp only; omega)).trans ((Below.heap_setCell _ _ _ q (by dsimp only; omega)).trans (S2.1.blk q hq hq'))
  · exact ((S2.2.setCell (by dsimp only; omega) _).setCell (by dsimp only; omega) _)
  refine wpAnyH_done (by kernel_rfl) ?_ _
  subst hQQ
  have HM := hideP hM
  have HL := hideP (hl.set ⟨w.heap.size + 1, 0, none⟩ (.slice s M.length c) (by dsimp only; omega))
  have HL2 := hideP (HL.out.set ⟨w.heap.size + 1, 1, none⟩ (.bool v) (by dsimp only; omega))
  have K3 := hideP K2
  clear hQ S0 S2 hM hl hb K2 HL
  go_wp2
  refine bodyPost_ret (v := .agg #[.slice s M.length c, .bool v]) (by simp [results, Try.results16, go_sem, *]) rfl ⟨s, c, M, rfl, HM.out, ?_, ?_⟩
  · exact HL2.out.le (by omega)
  · exact (K3.out.setCell (by dsimp only; omega) _).setCell (by dsimp only; omega) _
end Go.Proofs.Ytngmiimendlleaa
