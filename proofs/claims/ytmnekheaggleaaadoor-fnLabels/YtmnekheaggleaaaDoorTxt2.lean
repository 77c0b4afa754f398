/- LabelText of the program at every label; the table of letters as the text lays it. -/
import Derived.Test.YtmnekheaggleaaaDoorTxt1
import Derived.OwnWalk
namespace Go.Proofs.YtmnekheaggleaaaDoor
open Go.RowKit
set_option linter.unusedVariables false

theorem Tryd.infoU8 : (Tryd.prog.info? 5).map (fun i => (i.zero, i.size, i.bytes)) = some (some (.int .u8 0), 1, 1) := by kernel_rfl

theorem txl_yes {l p : Int} {k : Nat} (h : bt p k = true) : tx l p (k + 1) = tx l p k ++ [43, 97 + (k : Int)] := by simp [tx, h]
theorem bit_dec : ∀ p : Fin 16, (bits .and .u8 (p.val : Int) 1 != 0) = bt (p.val : Int) 0 ∧ (bits .and .u8 (p.val : Int) 2 != 0) = bt (p.val : Int) 1 ∧ (bits .and .u8 (p.val : Int) 4 != 0) = bt (p.val : Int) 2 ∧ (bits .and .u8 (p.val : Int) 8 != 0) = bt (p.val : Int) 3 := by decide +kernel
theorem bit16 (p : Int) (h1 : 0 ≤ p) (h2 : p ≤ 15) : (bits .and .u8 p 1 != 0) = bt p 0 ∧ (bits .and .u8 p 2 != 0) = bt p 1 ∧ (bits .and .u8 p 4 != 0) = bt p 2 ∧ (bits .and .u8 p 8 != 0) = bt p 3 :=
  fin16 (fun p _ => (bits .and .u8 p 1 != 0) = bt p 0 ∧ (bits .and .u8 p 2 != 0) = bt p 1 ∧ (bits .and .u8 p 4 != 0) = bt p 2 ∧ (bits .and .u8 p 8 != 0) = bt p 3) (fun p _ => bit_dec p) p 0 h1 h2 (by omega) (by omega)

theorem news_two (W : World) (x y : Value) (t : TypeId) (n : Nat) (hn : n = W.heap.size) : ∀ j u, [x, y][j]? = some u → (W.alloc (.cells #[x, y] t)).cell? ((⟨n, 0, none⟩ : Addr).add j) = some u := by
  subst hn
  intro j u hj
  match j, hj with
  | 0, hj => simp at hj; subst hj; simp [Addr.add]
  | 1, hj => simp at hj; subst hj; simp [Addr.add]

theorem grow_rel {w1 wr w2 : World} {v : Value} {e : TypeId} {o1 o2 : Obj} {n : Nat} {xs : List Value} (hb : Below w1.heap.size w1 wr) (ho : wr.ownsRow w1.heap.size e 1 v n xs) (hg : ((wr.alloc o1).alloc o2).grownBy w2 v.ownBlock) : Below w1.heap.size w1 w2 := by
  have hs := hb.size
  refine ((hb.alloc hs o1).alloc (by simp; omega) o2).grown hg (by simp; omega) fun k hk => (ho.lt k hk).1

theorem row_step {w2 : World} {B : Nat} {e : TypeId} {v' : Value} {l p : Int} {k : Nat} (hb : bt p k = true) (h : w2.ownsRow B e 1 v' ((tx l p k).length + 2) ((tx l p k).map (Value.int .u8) ++ [.int .u8 43, .int .u8 (97 + (k : Int))])) :
    w2.ownsRow B e 1 v' (tx l p (k + 1)).length ((tx l p (k + 1)).map (Value.int .u8)) := by
  rw [txl_yes hb]
  simpa using h

theorem row_slice {wr : World} {B : Nat} {e : TypeId} {v : Value} {l p : Int} (h : wr.ownsRow B e 1 v (tx l p 4).length ((tx l p 4).map (Value.int .u8))) :
    ∃ g cap, v = .slice (some ⟨g, 0, none⟩) (tx l p 4).length cap ∧ ∀ i, i < (tx l p 4).length → wr.cell? ⟨g, 0 + i, none⟩ = some (.int .u8 ((tx l p 4).getD i 0)) := by
  have hpos : 2 ≤ (tx l p 4).length := by
    have : ∀ k, 2 ≤ (tx l p k).length := by
      intro k
      induction k with
      | zero => simp [tx]
      | succ k ih => simp only [tx, List.length_append]; omega
    exact this 4
  rcases h.2 with ⟨_, h0⟩ | ⟨g, cap, cur, hv, _⟩
  · omega
  · subst hv
    refine ⟨g, cap, rfl, fun i hi => ?_⟩
    rw [Nat.zero_add, h.cellAt i (by omega)]
    simp [List.getD, hi]

set_option maxHeartbeats 1000000 in
theorem iText_no (l p : Int) (w : World) (h : fltB l p = true) :
    Calls Tryd.prog 10 #[.agg #[.int .i64 l, .int .i64 p]] w fun e w' => e = .returned (.agg #[.int .i64 3, .string ByteArray.empty]) ∧ Below w.heap.size w w' := by
  go_enter Tryd.func10, Tryd.ntmps10
  go_wp2_with (first | (go_at_call 15; refine Calls.mono (lf_no _ _ _ ?_) ?_; (all_goals try (first | (with_reducible assumption) | omega)); rintro e w1 ⟨rfl, k1⟩; (try replace k1 := kept_join (by assumption) k1); have hc1 := Kept.cell k1; have hf1 := Kept.frozen k1; have hz1 := k1.size; (try simp only [World.size_alloc] at hz1); (try simp only [World.size_setCell] at hz1); (try simp only [World.size_drew] at hz1); (try (first | have hs1 := sz12 hz1 | have hs1 := sz11 hz1 | have hs1 := sz10 hz1 | have hs1 := sz9 hz1 | have hs1 := sz8 hz1 | have hs1 := sz7 hz1 | have hs1 := sz6 hz1 | have hs1 := sz5 hz1 | have hs1 := sz4 hz1 | have hs1 := sz3 hz1 | have hs1 := sz2 hz1 | have hs1 := sz1 hz1))))
  refine bodyPost_ret (v := .agg #[.int .i64 3, .string ByteArray.empty]) (by simp [results, Tryd.results10, go_sem, *]; rfl) rfl ⟨rfl, ?_⟩
  repeat' (first | (with_reducible exact Below.refl _ _) | (with_reducible refine kept_below ?_ (by assumption) ?_) | (with_reducible refine Below.alloc ?_ ?_ _) | (with_reducible refine Below.drew ?_) | (with_reducible refine Below.setCell ?_ ?_ _) | go_size)

set_option maxHeartbeats 1000000 in
theorem iText_ok (l p : Int) (w : World) (h : fltB l p = false) (T : Tab w) :
    Calls Tryd.prog 10 #[.agg #[.int .i64 l, .int .i64 p]] w fun e w' => e = .returned (.agg #[.int .i64 0, .string (strOfNums (tx l p 4))]) ∧ Below w.heap.size w w' := by
  obtain ⟨h1, h2, h3, h4⟩ := fltB_no h
  go_enter Tryd.func10, Tryd.ntmps10
  go_wp2_with fail
  refine Calls.mono (lf_ok _ _ _ h) ?_
  rintro e w1 ⟨rfl, k1⟩
  clear h
  obtain ⟨T0, T1, T2, T3, T4⟩ := T.keep (show Below w.heap.size w w1 from by repeat' (first | (with_reducible exact Below.refl _ _) | (with_reducible refine kept_below ?_ (by assumption) ?_) | (with_reducible refine Below.alloc ?_ ?_ _) | (with_reducible refine Below.drew ?_) | (with_reducible refine Below.setCell ?_ ?_ _) | go_size))
  clear T
  have hz1 := k1.size
  simp only [World.size_alloc] at hz1
  have b0 : w.heap.size < w1.heap.size ∧ w.heap.size + 1 < w1.heap.size := by omega
  have c0 : w1.cell? ⟨w.heap.size, 0, none⟩ = some (.int .i64 l) := by rw [Kept.cell k1 _ _ (by simp; omega)]; simp [go_sem]
  have c1 : w1.cell? ⟨w.heap.size, 1, none⟩ = some (.int .i64 p) := by rw [Kept.cell k1 _ _ (by simp; omega)]; simp [go_sem]
  have r0 : w1.cell? ⟨w.heap.size + 1, 0, none⟩ = some (.int .i64 0) := by rw [Kept.cell k1 _ _ (by simp)]; simp [go_sem]
  have r1 : w1.cell? ⟨w.heap.size + 1, 1, none⟩ = some (.string ByteArray.empty) := by rw [Kept.cell k1 _ _ (by simp)]; simp [go_sem]; rfl
  have z0 : w1.frozen? ⟨w.heap.size + 1, 0, none⟩ = false := by rw [Kept.frozen k1 _ _ (by simp)]; simp [go_sem]
  have z1 : w1.frozen? ⟨w.heap.size + 1, 1, none⟩ = false := by rw [Kept.frozen k1 _ _ (by simp)]; simp [go_sem]
  have kb : Below w.heap.size w w1 := by repeat' (first | (with_reducible exact Below.refl _ _) | (with_reducible refine kept_below ?_ (by assumption) ?_) | (with_reducible refine Below.alloc ?_ ?_ _) | (with_reducible refine Below.drew ?_) | (with_reducible refine Below.setCell ?_ ?_ _) | go_size)
  clear k1
  have own0 : (w1.alloc (.cells #[.int .u8 76, .int .u8 (48 + l)] 5)).ownsRow w1.heap.size 5 1 (.slice (some ⟨w1.heap.size, 0, none⟩) 2 2) (tx l p 0).length ((tx l p 0).map (Value.int .u8)) :=
    World.ownsRow_lit w1 #[.int .u8 76, .int .u8 (48 + l)] 2 (Nat.le_refl _) (by unfold maxLen; omega) rfl
  have HO := hideP own0
  obtain ⟨i0, hi, hz0, hz1', hz2⟩ := info_parts Tryd.infoU8
  have hbits := bit16 p h3 h4
  have hbit0 := hideP hbits.1
  have hbit1 := hideP hbits.2.1
  have hbit2 := hideP hbits.2.2.1
  have hbit3 := hideP hbits.2.2.2
  clear hbits
  clear own0
  go_wp2
  go_loopw [4, 19] (fun v i wr => ∃ k : Nat, k ≤ 4 ∧ i = .int .i64 k ∧ wr.ownsRow w1.heap.size 5 1 v (tx l p k).length ((tx l p k).map (Value.int .u8)) ∧ Below w1.heap.size w1 wr) (fun _ i _ => 4 - (intOf i).toNat)
  case atStart => exact ⟨0, Nat.zero_le _, rfl, HO.out, (Below.refl _ _).alloc (Nat.le_refl _) _⟩
  case round =>
    obtain ⟨k, hk, rfl, hown, hbel⟩ := hrel
    have HW := hideP hown
    have HB := hideP hbel
    have d0 : wr.cell? ⟨w.heap.size, 0, none⟩ = some (.int .i64 l) := by rw [hbel.cell (by simp; omega)]; exact c0
    have d1 : wr.cell? ⟨w.heap.size, 1, none⟩ = some (.int .i64 p) := by rw [hbel.cell (by simp; omega)]; exact c1
    have hwz := hbel.size
    have hwl : w.heap.size < wr.heap.size ∧ w.heap.size + 1 < wr.heap.size := by omega
    clear hown hbel HO
    have hcases : k = 0 ∨ k = 1 ∨ k = 2 ∨ k = 3 ∨ k = 4 := by omega
    rcases hcases with rfl | rfl | rfl | rfl | rfl
    · have hix : ∀ w, (Instr.index 54 (.agg #[.int .u8 97, .int .u8 98, .int .u8 99, .int .u8 100]) (.int .i64 0)).run Tryd.prog w = .ok (.int .u8 97) w := fun _ => by kernel_rfl
      cases hb : (bits .and .u8 p 1 != 0)
      · have HN := hideP (tx_no (l := l) (k := 0) (hbit0.out.symm.trans hb))
        go_wp2
        go_roundw
        case rel => exact ⟨1, by omega, rfl, by rw [HN.out]; exact HW.out.alloc _, HB.out.alloc HB.out.size _⟩
        case measure => simp [intOf]
      · have HN := hideP (hbit0.out.symm.trans hb)
        go_wp2_with (first | (at_builtin; refine wpList_append_own _ rfl _ _ 22 rfl w1.heap.size 5 i0 (.int .u8 0) 1 1 Tryd.underlying22 hi hz0 hz1' hz2 rfl (by decide) _ _ _ rfl ((HW.out.alloc _).alloc _) ⟨wr.heap.size + 1, 0, none⟩ 2 2 [.int .u8 43, .int .u8 97] rfl rfl (news_two _ _ _ _ _ (by simp)) (by intro u hu; simp at hu; rcases hu with rfl | rfl <;> rfl) (by have := tx_len l p 0; unfold maxLen; omega) (by have := tx_len l p 0; omega) (by simp; omega) ?_; intro v2 w2 hown2 hgrow2 _) | go_in)
        have R1 := hideP (row_step (k := 0) HN.out hown2)
        have R2 := hideP (grow_rel HB.out HW.out hgrow2)
        clear hown2 hgrow2
        go_wp2
        go_roundw
        case rel => exact ⟨1, by omega, rfl, R1.out, R2.out⟩
        case measure => simp [intOf]
    · have hix : ∀ w, (Instr.index 54 (.agg #[.int .u8 97, .int .u8 98, .int .u8 99, .int .u8 100]) (.int .i64 1)).run Tryd.prog w = .ok (.int .u8 98) w := fun _ => by kernel_rfl
      cases hb : (bits .and .u8 p 2 != 0)
      · have HN := hideP (tx_no (l := l) (k := 1) (hbit1.out.symm.trans hb))
        go_wp2
        go_roundw
        case rel => exact ⟨2, by omega, rfl, by rw [HN.out]; exact HW.out.alloc _, HB.out.alloc HB.out.size _⟩
        case measure => simp [intOf]
      · have HN := hideP (hbit1.out.symm.trans hb)
        go_wp2_with (first | (at_builtin; refine wpList_append_own _ rfl _ _ 22 rfl w1.heap.size 5 i0 (.int .u8 0) 1 1 Tryd.underlying22 hi hz0 hz1' hz2 rfl (by decide) _ _ _ rfl ((HW.out.alloc _).alloc _) ⟨wr.heap.size + 1, 0, none⟩ 2 2 [.int .u8 43, .int .u8 98] rfl rfl (news_two _ _ _ _ _ (by simp)) (by intro u hu; simp at hu; rcases hu with rfl | rfl <;> rfl) (by have := tx_len l p 1; unfold maxLen; omega) (by have := tx_len l p 1; omega) (by simp; omega) ?_; intro v2 w2 hown2 hgrow2 _) | go_in)
        have R1 := hideP (row_step (k := 1) HN.out hown2)
        have R2 := hideP (grow_rel HB.out HW.out hgrow2)
        clear hown2 hgrow2
        go_wp2
        go_roundw
        case rel => exact ⟨2, by omega, rfl, R1.out, R2.out⟩
        case measure => simp [intOf]
    · have hix : ∀ w, (Instr.index 54 (.agg #[.int .u8 97, .int .u8 98, .int .u8 99, .int .u8 100]) (.int .i64 2)).run Tryd.prog w = .ok (.int .u8 99) w := fun _ => by kernel_rfl
      cases hb : (bits .and .u8 p 4 != 0)
      · have HN := hideP (tx_no (l := l) (k := 2) (hbit2.out.symm.trans hb))
        go_wp2
        go_roundw
        case rel => exact ⟨3, by omega, rfl, by rw [HN.out]; exact HW.out.alloc _, HB.out.alloc HB.out.size _⟩
        case measure => simp [intOf]
      · have HN := hideP (hbit2.out.symm.trans hb)
        go_wp2_with (first | (at_builtin; refine wpList_append_own _ rfl _ _ 22 rfl w1.heap.size 5 i0 (.int .u8 0) 1 1 Tryd.underlying22 hi hz0 hz1' hz2 rfl (by decide) _ _ _ rfl ((HW.out.alloc _).alloc _) ⟨wr.heap.size + 1, 0, none⟩ 2 2 [.int .u8 43, .int .u8 99] rfl rfl (news_two _ _ _ _ _ (by simp)) (by intro u hu; simp at hu; rcases hu with rfl | rfl <;> rfl) (by have := tx_len l p 2; unfold maxLen; omega) (by have := tx_len l p 2; omega) (by simp; omega) ?_; intro v2 w2 hown2 hgrow2 _) | go_in)
        have R1 := hideP (row_step (k := 2) HN.out hown2)
        have R2 := hideP (grow_rel HB.out HW.out hgrow2)
        clear hown2 hgrow2
        go_wp2
        go_roundw
        case rel => exact ⟨3, by omega, rfl, R1.out, R2.out⟩
        case measure => simp [intOf]
    · have hix : ∀ w, (Instr.index 54 (.agg #[.int .u8 97, .int .u8 98, .int .u8 99, .int .u8 100]) (.int .i64 3)).run Tryd.prog w = .ok (.int .u8 100) w := fun _ => by kernel_rfl
      cases hb : (bits .and .u8 p 8 != 0)
      · have HN := hideP (tx_no (l := l) (k := 3) (hbit3.out.symm.trans hb))
        go_wp2
        go_roundw
        case rel => exact ⟨4, by omega, rfl, by rw [HN.out]; exact HW.out.alloc _, HB.out.alloc HB.out.size _⟩
        case measure => simp [intOf]
      · have HN := hideP (hbit3.out.symm.trans hb)
        go_wp2_with (first | (at_builtin; refine wpList_append_own _ rfl _ _ 22 rfl w1.heap.size 5 i0 (.int .u8 0) 1 1 Tryd.underlying22 hi hz0 hz1' hz2 rfl (by decide) _ _ _ rfl ((HW.out.alloc _).alloc _) ⟨wr.heap.size + 1, 0, none⟩ 2 2 [.int .u8 43, .int .u8 100] rfl rfl (news_two _ _ _ _ _ (by simp)) (by intro u hu; simp at hu; rcases hu with rfl | rfl <;> rfl) (by have := tx_len l p 3; unfold maxLen; omega) (by have := tx_len l p 3; omega) (by simp; omega) ?_; intro v2 w2 hown2 hgrow2 _) | go_in)
        have R1 := hideP (row_step (k := 3) HN.out hown2)
        have R2 := hideP (grow_rel HB.out HW.out hgrow2)
        clear hown2 hgrow2
        go_wp2
        go_roundw
        case rel => exact ⟨4, by omega, rfl, R1.out, R2.out⟩
        case measure => simp [intOf]
    · obtain ⟨g, cap, hv, hcell⟩ := row_slice HW.out
      have hcv := run_convert_bytes_arg (P := Tryd.prog) wr 22 5 Tryd.underlying22 Tryd.underlying5 g 0 (tx l p 4).length cap (tx l p 4) rfl hcell 9 Tryd.underlying9
      clear hcell
      have e0 : wr.cell? ⟨w.heap.size + 1, 0, none⟩ = some (.int .i64 0) := by rw [HB.out.cell (by simp; omega)]; exact r0
      have e1 : wr.cell? ⟨w.heap.size + 1, 1, none⟩ = some (.string ByteArray.empty) := by rw [HB.out.cell (by simp; omega)]; exact r1
      have y0 : wr.frozen? ⟨w.heap.size + 1, 0, none⟩ = false := by rw [HB.out.frozen (by simp; omega)]; exact z0
      have y1 : wr.frozen? ⟨w.heap.size + 1, 1, none⟩ = false := by rw [HB.out.frozen (by simp; omega)]; exact z1
      subst hv
      go_wp2
      refine bodyPost_ret (v := .agg #[.int .i64 0, .string (strOfNums (tx l p 4))]) (by simp [results, Tryd.results10, go_sem, *]) rfl ⟨rfl, ?_⟩
      have hk2 : Below w.heap.size w wr := kb.trans (HB.out.mono (by omega))
      repeat' (first | exact hk2 | (with_reducible refine Below.setCell ?_ ?_ _) | go_size)

end Go.Proofs.YtmnekheaggleaaaDoor
