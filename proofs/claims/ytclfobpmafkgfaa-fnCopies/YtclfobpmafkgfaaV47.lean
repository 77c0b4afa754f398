/- A window copied over itself: the program's cells, in arrays. -/
import Derived.Test.YtclfobpmafkgfaaV46
namespace Go.Proofs.Ytclfobpmafkgfaa
open Go.RowKit Go.Maps
set_option linter.unusedVariables false

theorem wpList_copy_cells {P : Program} {w : World} {ops : Array Oper} {rest : List Oper} {o : Oper} {a : Act} {Q : Exit → Act → World → Prop} (hgd : o.guard = none) (d s : Operand) (dT sT : TypeId)
    (ho : o.op = .call { callee := .builtin .copy, args := #[d, s], argTypes := #[dT, sT] }) (elem : TypeId) (hu : P.underlying dT = some (.slice elem)) (hsz : (P.info? elem).map (·.size) = some 1)
    (b off dLen dCap : Nat) (ad : Addr) (sLen sCap : Nat) (hd : a.eval d = .slice (some ⟨b, off, none⟩) dLen dCap) (hs : a.eval s = .slice (some ad) sLen sCap)
    (cs : List Value) (hn : cs.length = Nat.min sLen dLen)
    (hsrc : ∀ j v, cs[j]? = some v → w.cell? (ad.add j) = some v) (hc : ∀ j, j < cs.length → (w.cell? ⟨b, off + j, none⟩).isSome = true) (hf : ∀ j, j < cs.length → w.frozen? ⟨b, off + j, none⟩ = false) (h1 : ∀ v ∈ cs, v.oneCell' = true)
    (h : wpList P ops Q rest (a.put o.dst (goInt cs.length)) (w.setCells b off cs)) : wpList P ops Q (o :: rest) a w := by
  refine wpList_plain hgd fun K hK => ?_
  have hrun := run_copy_cells (P := P) w dT sT o.type elem b off dLen dCap ad sLen sCap cs hu hsz hn hsrc hc hf h1
  unfold Oper.wp
  simp [execOp, ho, resolve, invoke, builtin, hd, hs, hrun, Result.andThen]
  exact hK _ _ h

theorem Far.cells {b : Nat} : ∀ (vs : List Value) (o : Nat) (w0 w : World), Far b (b + 1) w0 w → Far b (b + 1) w0 (w.setCells b o vs)
  | [], _, _, _, h => h
  | v :: r, o, w0, w, h => Far.cells r (o + 1) w0 _ (h.setCell (p := ⟨b, o, none⟩) (Nat.le_refl _) (Nat.lt_succ_self _) v)
/-- Cells of a row written anew, all of them. -/
theorem PS.over {w wr : World} {bg : Nat} {L L' : List Int} (h : PS w wr bg L) (he : L'.length = L.length) : PS w (wr.setCells bg 0 (L'.map (Value.int .i64))) bg L' := by
  refine ⟨Far.cells _ _ _ _ h.far, ?_⟩
  by_cases hL : L' = []
  · exact .inl hL
  have hp : 0 < L.length := by rw [← he]; exact List.length_pos_iff.2 hL
  refine .inr ⟨bg, 0, rfl, Nat.le_refl _, Nat.lt_succ_self _, fun i hi => ?_, fun c => ?_⟩
  · have := World.cell?_setCells_in bg (L'.map (Value.int .i64)) 0 wr (fun j hj => by
      have hj' : j < L.length := by rw [← he]; simpa using hj
      rw [(h.wrt.cells hj').2.2.1]; rfl) i (by simpa using hi)
    rw [this]
    simp
  · rw [World.frozen?_setCells]
    exact (h.wrt.cells hp).2.2.2 c

/-- While the program copies: what is read, what is painted, and that nothing old turns. -/
structure CS (w wr : World) (B8 B9 : Nat) (D L : List Int) : Prop where
  k : Below w.heap.size w wr
  was : AR wr B8 (pic D)
  pnt : AR wr B9 (L ++ List.replicate (48 - D.length) 0)
section
variable {w wr w' : World} {B8 B9 : Nat} {D L : List Int}
theorem CS.keep (h : CS w wr B8 B9 D L) (k : Below wr.heap.size wr w') : CS w w' B8 B9 D L := ⟨h.k.trans (k.mono h.k.size), h.was.keep k h.was.lt, h.pnt.keep k h.pnt.lt⟩
theorem CS.one (h : CS w wr B8 B9 D L) {n : Nat} (hn : n < L.length) (v : Int) (h89 : B8 ≠ B9) (hB : w.heap.size ≤ B9) : CS w (wr.setCell ⟨B9, n, none⟩ (.int .i64 v)) B8 B9 D (L.set n v) :=
  ⟨h.k.setCell (p := ⟨B9, n, none⟩) hB _, h.was.other _ _ h89, by have := h.pnt.one n v; rwa [List.set_append_left _ _ hn] at this⟩
theorem pic_at {D : List Int} {m : Nat} (hm : m < D.length) : (pic D)[m]'(by simp [pic]; omega) = D[m] := by
  unfold pic
  exact List.getElem_append_left hm
theorem CS.cell8 (h : CS w wr B8 B9 D L) {m : Nat} (hm : m < D.length) : wr.cell? ⟨B8, m, none⟩ = some (.int .i64 D[m]) ∧ B8 < wr.heap.size :=
  ⟨by rw [h.was.cell (by simp [pic]; omega), pic_at hm], h.was.lt⟩
theorem CS.cell9 (h : CS w wr B8 B9 D L) {n : Nat} (hn : n < L.length) : wr.cell? ⟨B9, n, none⟩ = some (.int .i64 L[n]) ∧ B9 < wr.heap.size ∧ ∀ c, wr.frozen? ⟨B9, c, none⟩ = false :=
  ⟨by rw [h.pnt.cell (by simp; omega), List.getElem_append_left hn], h.pnt.lt, h.pnt.free⟩
end

theorem cs_new {w w1 : World} {D : List Int} {PD : Array Value} {b : Nat} {rx ry rp rh : Int} (K : Below w.heap.size w w1) (hPD : arr (pic D) = PD) (hl : D.length ≤ 48) (R : IsRect w1 b 0 rx ry rp rh) (hb : b < w1.heap.size) :
    CS w (((w1.alloc (.cells PD 120)).alloc (.cells #[.int .i64 0, .int .i64 0, .int .i64 0, .int .i64 0, .int .i64 0, .int .i64 0, .int .i64 0, .int .i64 0, .int .i64 0, .int .i64 0, .int .i64 0, .int .i64 0, .int .i64 0, .int .i64 0, .int .i64 0, .int .i64 0, .int .i64 0, .int .i64 0, .int .i64 0, .int .i64 0, .int .i64 0, .int .i64 0, .int .i64 0, .int .i64 0, .int .i64 0, .int .i64 0, .int .i64 0, .int .i64 0, .int .i64 0, .int .i64 0, .int .i64 0, .int .i64 0, .int .i64 0, .int .i64 0, .int .i64 0, .int .i64 0, .int .i64 0, .int .i64 0, .int .i64 0, .int .i64 0, .int .i64 0, .int .i64 0, .int .i64 0, .int .i64 0, .int .i64 0, .int .i64 0, .int .i64 0, .int .i64 0] 120)).setRow (w1.heap.size + 1) PD) w1.heap.size (w1.heap.size + 1) D D ∧ IsRect (((w1.alloc (.cells PD 120)).alloc (.cells #[.int .i64 0, .int .i64 0, .int .i64 0, .int .i64 0, .int .i64 0, .int .i64 0, .int .i64 0, .int .i64 0, .int .i64 0, .int .i64 0, .int .i64 0, .int .i64 0, .int .i64 0, .int .i64 0, .int .i64 0, .int .i64 0, .int .i64 0, .int .i64 0, .int .i64 0, .int .i64 0, .int .i64 0, .int .i64 0, .int .i64 0, .int .i64 0, .int .i64 0, .int .i64 0, .int .i64 0, .int .i64 0, .int .i64 0, .int .i64 0, .int .i64 0, .int .i64 0, .int .i64 0, .int .i64 0, .int .i64 0, .int .i64 0, .int .i64 0, .int .i64 0, .int .i64 0, .int .i64 0, .int .i64 0, .int .i64 0, .int .i64 0, .int .i64 0, .int .i64 0, .int .i64 0, .int .i64 0, .int .i64 0] 120)).setRow (w1.heap.size + 1) PD) b 0 rx ry rp rh := by
  rw [← arr_zeros, ← hPD]
  have k1 : Below w1.heap.size w1 ((w1.alloc (.cells (arr (pic D)) 120)).alloc (.cells (arr (List.replicate 48 0)) 120)) := ((Below.refl _ _).alloc (Nat.le_refl _) _).alloc (by simp) _
  have k2 := below_setRow (g := w1.heap.size + 1) k1 (by omega) (arr (pic D))
  have e1 : ((w1.alloc (.cells (arr (pic D)) 120)).alloc (.cells (arr (List.replicate 48 0)) 120)).heap[w1.heap.size + 1]? = some (.cells (arr (List.replicate 48 0)) 120 (0, 0)) := by
    have := heap_alloc_new (w1.alloc (.cells (arr (pic D)) 120)) (.cells (arr (List.replicate 48 0)) 120)
    simpa using this
  refine ⟨⟨K.trans (k2.mono K.size), ?_, setRow_heap _ _ _ _ _ _ e1⟩, ⟨(k2.cell (p := ⟨b, 0, none⟩) hb).trans R.1, (k2.cell (p := ⟨b, 0 + 1, none⟩) hb).trans R.2, (k2.cell (p := ⟨b, 0 + 2, none⟩) hb).trans R.3, (k2.cell (p := ⟨b, 0 + 3, none⟩) hb).trans R.4⟩⟩
  show _ = _
  rw [setRow_other _ _ _ _ (by omega)]
  have e2 := heap_alloc_new w1 (.cells (arr (pic D)) 120)
  exact (((Below.refl (w1.heap.size + 1) (w1.alloc (.cells (arr (pic D)) 120))).alloc (by simp) _).block _ (by omega)).trans e2

set_option maxRecDepth 100000 in
set_option maxHeartbeats 4000000 in
theorem copyTo_any (g o bg ca : Nat) (x y p h rx ry rp rh tx ty : Int) (D : List Int) (w : World) (I : Pip w g o bg ca x y p h D.length) (hW : Wrt .i64 w bg (bg + 1) (some ⟨bg, 0, none⟩) D) (h1 : 1 ≤ p ∧ p ≤ 8) (h2 : 1 ≤ h ∧ h ≤ 6) (hl : (D.length : Int) = p * h) (hD : D ≠ []) (hr : rfB rx ry rp rh = false)
    (hx : -20 ≤ tx ∧ tx ≤ 20) (hy : -20 ≤ ty ∧ ty ≤ 20) :
    Calls Try.prog 61 #[.pointer (some ⟨g, o, none⟩), .agg #[.int .i64 rx, .int .i64 ry, .int .i64 rp, .int .i64 rh], .int .i64 tx, .int .i64 ty] w fun e w' => e = .returned (.tuple #[]) ∧ PS w w' bg (copyL p h rx ry rp rh tx ty D) := by
  obtain ⟨⟨f1, f2⟩, ⟨f3, f4⟩, ⟨f5, f6⟩, f7, f8⟩ := rfB_no hr
  have ab := area_le h1 h2
  have hC : (D.length : Int) ≤ h * p := by rw [hl, Int.mul_comm]; omega
  have hlen : (D.length : Int) ≤ 48 := by omega
  have hlen' : D.length ≤ 48 := by omega
  have hlt0 : 0 < D.length := List.length_pos_iff.2 hD
  have hbg : bg < w.heap.size := World.block_lt_of_cell? w _ (hW.cells hlt0).2.2.1
  have HC := hideP hC
  have HL := hideP hl
  have HW := hideP hW
  have HI := hideP I
  have hp0 : 0 < p := by omega
  have hg : g < w.heap.size := World.block_lt_of_cell? w _ I.a6
  obtain ⟨PD, hPD⟩ : ∃ PD, arr (pic D) = PD := ⟨_, rfl⟩
  have hp48 : PD.size = 48 := by rw [← hPD, arr_size, pic_len hlen']
  have hone : PD.all (·.oneCell') = true := by rw [← hPD]; exact arr_one (pic D)
  have H48 := hideP hp48
  have HONE := hideP hone
  have HPD := hideP hPD
  have PC := fun w1 (k : Below w.heap.size w w1) => picture_any g o bg ca x y p h D w1 ⟨(k.cell (p := ⟨g, o, none⟩) hg).trans HI.out.a0, (k.cell (p := ⟨g, o + 1, none⟩) hg).trans HI.out.a1, (k.cell (p := ⟨g, o + 2, none⟩) hg).trans HI.out.a2, (k.cell (p := ⟨g, o + 3, none⟩) hg).trans HI.out.a3, (k.cell (p := ⟨g, o + 6, none⟩) hg).trans HI.out.a6, HI.out.n1⟩ (HW.out.keep k (by omega)) hlen' hD
  rw [hPD] at PC
  have PC' := hideP PC
  clear hC hl hW I ab hPD hp48 hone PC
  go_enter Try.func61, Try.ntmps61
  go_wp2_with fail
  refine Calls.mono (PC'.out _ (by go_grown)) ?_
  rintro e w1 ⟨rfl, k1⟩
  have K1 : Hid (Below w.heap.size w w1) := hideP (Below.trans (by go_grown) (k1.mono (by simp)))
  have R1 : Hid (IsRect w1 w.heap.size 0 rx ry rp rh) := hideP ⟨(k1.cell (p := ⟨w.heap.size, 0, none⟩) (by simp)).trans (by simp), (k1.cell (p := ⟨w.heap.size, 0 + 1, none⟩) (by simp)).trans (by simp), (k1.cell (p := ⟨w.heap.size, 0 + 2, none⟩) (by simp)).trans (by simp), (k1.cell (p := ⟨w.heap.size, 0 + 3, none⟩) (by simp)).trans (by simp)⟩
  have z1 := k1.size
  simp only [World.size_alloc] at z1
  clear k1 PC'
  go_wp2_with (first
    | (refine wpList_store_row rfl 120 _ _ rfl w1.heap.size PD rfl rfl 120 (arr (List.replicate 48 0)) (by rw [arr_zeros]; exact heap_alloc_new _ _) (by rw [H48.out]; exact Try.infoPic) (by rw [H48.out, arr_size]; rfl) HONE.out ?_; rw [World.setRow_alloc_new])
    | (refine wpList_load_row rfl 120 _ rfl w1.heap.size rfl 120 PD (0, 0) _ (heap_alloc_new _ _) Try.underlying120 rfl (by rw [H48.out]; exact Try.infoPic) ?_)
    | (refine wpList_store_row rfl 120 _ _ rfl (w1.heap.size + 1) PD rfl rfl 120 (arr (List.replicate 48 0)) (by rw [arr_zeros]; have := heap_alloc_new (w1.alloc (.cells PD 120)); simp only [World.size_alloc] at this; exact this _) (by rw [H48.out]; exact Try.infoPic) (by rw [H48.out, arr_size]; rfl) HONE.out ?_
       obtain ⟨C0, R0⟩ := cs_new K1.out HPD.out hlen' R1.out (by omega)
       generalize ((w1.alloc (.cells PD 120)).alloc (.cells #[.int .i64 0, .int .i64 0, .int .i64 0, .int .i64 0, .int .i64 0, .int .i64 0, .int .i64 0, .int .i64 0, .int .i64 0, .int .i64 0, .int .i64 0, .int .i64 0, .int .i64 0, .int .i64 0, .int .i64 0, .int .i64 0, .int .i64 0, .int .i64 0, .int .i64 0, .int .i64 0, .int .i64 0, .int .i64 0, .int .i64 0, .int .i64 0, .int .i64 0, .int .i64 0, .int .i64 0, .int .i64 0, .int .i64 0, .int .i64 0, .int .i64 0, .int .i64 0, .int .i64 0, .int .i64 0, .int .i64 0, .int .i64 0, .int .i64 0, .int .i64 0, .int .i64 0, .int .i64 0, .int .i64 0, .int .i64 0, .int .i64 0, .int .i64 0, .int .i64 0, .int .i64 0, .int .i64 0, .int .i64 0] 120)).setRow (w1.heap.size + 1) PD = W at *
       have HC0 := hideP C0
       have HR0 := hideP R0
       obtain ⟨d0, d1, d2, d3⟩ := R0
       simp only [Nat.zero_add] at d0 d1 d2 d3
       have zW : w1.heap.size + 1 < W.heap.size := C0.pnt.lt
       clear C0))
  obtain ⟨B8, hB8⟩ : ∃ B8, w1.heap.size = B8 := ⟨_, rfl⟩
  have z8 : w.heap.size + 1 ≤ B8 := by omega
  have hRb : ∀ wr, Below B8 W wr → IsRect wr w.heap.size 0 rx ry rp rh := fun wr k =>
    ⟨(k.cell (p := ⟨w.heap.size, 0, none⟩) (by show w.heap.size < B8; omega)).trans HR0.out.1, (k.cell (p := ⟨w.heap.size, 0 + 1, none⟩) (by show w.heap.size < B8; omega)).trans HR0.out.2, (k.cell (p := ⟨w.heap.size, 0 + 2, none⟩) (by show w.heap.size < B8; omega)).trans HR0.out.3, (k.cell (p := ⟨w.heap.size, 0 + 3, none⟩) (by show w.heap.size < B8; omega)).trans HR0.out.4⟩
  have HRb := hideP hRb
  have hPi : ∀ wr L, CS w wr B8 (B8 + 1) D L → Pip wr g o bg ca x y p h D.length ∧ g < wr.heap.size := fun wr L c =>
    ⟨⟨(c.k.cell (p := ⟨g, o, none⟩) hg).trans HI.out.a0, (c.k.cell (p := ⟨g, o + 1, none⟩) hg).trans HI.out.a1, (c.k.cell (p := ⟨g, o + 2, none⟩) hg).trans HI.out.a2, (c.k.cell (p := ⟨g, o + 3, none⟩) hg).trans HI.out.a3, (c.k.cell (p := ⟨g, o + 6, none⟩) hg).trans HI.out.a6, HI.out.n1⟩, by have := c.k.size; omega⟩
  have HPi := hideP hPi
  rw [hB8] at HC0 zW ⊢
  have hWsz : B8 ≤ W.heap.size := by omega
  clear d0 d1 d2 d3 hRb hPi hB8 HR0 R1 K1 z1
  go_loopw [17] (fun yy wr => ∃ j : Nat, (j : Int) ≤ rh ∧ yy = .int .i64 (j : Int) ∧ Below B8 W wr ∧ CS w wr B8 (B8 + 1) D (cpL p h rx ry rp rh tx ty D 0 (j : Int))) (fun yy _ => (rh - intOf yy).toNat)
  case atStart => exact ⟨0, by omega, rfl, Below.refl _ _, by rw [show ((0 : Nat) : Int) = 0 from rfl, cpL_start]; exact HC0.out⟩
  case round =>
    obtain ⟨j, hj, rfl, kb1, F1⟩ := hrel
    have HK2 := hideP kb1
    have HF2 := hideP F1
    obtain ⟨d0, d1, d2, d3⟩ := HRb.out _ kb1
    simp only [Nat.zero_add] at d0 d1 d2 d3
    have hbr : w.heap.size < wr.heap.size := by have := kb1.size; omega
    clear F1 kb1
    by_cases hj2 : (j : Int) < rh
    · go_wp2
      clear d0 d1 d2 d3
      go_loopw [22] (fun xx wr => ∃ i : Nat, (i : Int) ≤ rp ∧ xx = .int .i64 (i : Int) ∧ Below B8 W wr ∧ CS w wr B8 (B8 + 1) D (cpL p h rx ry rp rh tx ty D (i : Int) (j : Int))) (fun xx _ => (rp - intOf xx).toNat)
      case atStart => exact ⟨0, by omega, rfl, HK2.out, HF2.out⟩
      case round =>
        obtain ⟨i, hi, rfl, kb3, F3⟩ := hrel
        have HK3 := hideP kb3
        have HF3 := hideP F3
        have hsz3 : B8 ≤ wr.heap.size := Nat.le_trans hWsz kb3.size
        by_cases hi2 : (i : Int) < rp
        · obtain ⟨d0, d1, d2, d3⟩ := HRb.out _ kb3
          simp only [Nat.zero_add] at d0 d1 d2 d3
          obtain ⟨⟨a0, a1, a2, a3, a6, _⟩, hgr⟩ := HPi.out _ _ F3
          have hbr : w.heap.size < wr.heap.size := by omega
          have hw3 : IntKind.i64.wrap (rx + (i : Int)) = rx + (i : Int) := IntWalk.i64_in _ (by omega)
          have hw4 : IntKind.i64.wrap (ry + (j : Int)) = ry + (j : Int) := IntWalk.i64_in _ (by omega)
          have hw5 : IntKind.i64.wrap (tx + (i : Int)) = tx + (i : Int) := IntWalk.i64_in _ (by omega)
          have hw6 : IntKind.i64.wrap (ty + (j : Int)) = ty + (j : Int) := IntWalk.i64_in _ (by omega)
          have HO1 := fun w1 => hasOwn_any x y p h (rx + (i : Int)) (ry + (j : Int)) w1
          have HO2 := fun w1 => hasOwn_any x y p h (tx + (i : Int)) (ty + (j : Int)) w1
          clear F3 kb3
          cases hs : ownB p h (rx + (i : Int)) (ry + (j : Int))
          · have SK := hideP (cpL_skip (p := p) (h := h) (rx := rx) (ry := ry) (rp := rp) (rh := rh) (tx := tx) (ty := ty) (u := (i : Int)) (v := (j : Int)) (D := D) hp0 HC.out (.inl hs))
            rw [hs] at HO1
            have HO1' := hideP HO1
            clear HO1 HO2 hs
            go_wp2
            refine wp_region_wq (by kernel_rfl) (by kernel_rfl) ?_
            repeat (first | (refine wq_up _ (by first | exact wanted_free rfl | exact wanted_yes rfl rfl | exact wanted_no rfl rfl | exact wanted_lost rfl rfl) (by first | with_reducible rfl | decide) ?_; apply Exists.intro; refine ⟨fun w1 k1 => ?_, fun K hK => ?_⟩; (focus (have hc := Kept.cell k1; go_simp; first | done | rfl | (go_at_call 48; with_reducible exact kept_call k1 (HO1'.out _)))); (go_simp; refine hK _ ?_; clear hK K)) | (refine wq_off _ (by first | exact wanted_free rfl | exact wanted_yes rfl rfl | exact wanted_no rfl rfl | exact wanted_lost rfl rfl) (by first | with_reducible rfl | decide) ?_; intro K hK; go_simp; refine hK _ ?_; clear hK K))
            refine wq_nil ?_
            intro w9 k9
            replace k9 := Kept.below k9
            have hc9 := Kept.cell k9
            have hf9 := Kept.frozen k9
            have hz9 := k9.size
            try simp only [World.size_alloc] at hz9
            try simp only [World.size_setCell] at hz9
            try simp only [World.size_drew] at hz9
            try (first | have hs9 := sz12 hz9 | have hs9 := sz11 hz9 | have hs9 := sz10 hz9 | have hs9 := sz9 hz9 | have hs9 := sz8 hz9 | have hs9 := sz7 hz9 | have hs9 := sz6 hz9 | have hs9 := sz5 hz9 | have hs9 := sz4 hz9 | have hs9 := sz3 hz9 | have hs9 := sz2 hz9 | have hs9 := sz1 hz9)
            have HF9 := hideP (HF3.out.keep k9)
            have HK9 := hideP (HK3.out.trans (k9.mono hsz3))
            clear d0 d1 d2 d3 a0 a1 a2 a3 a6 k9 hc9 hf9 HO1'
            go_wp2
            go_roundw
            case rel => exact ⟨i + 1, by omega, by go_num, HK9.out, by rw [show ((i + 1 : Nat) : Int) = (i : Int) + 1 by omega, ← SK.out]; exact HF9.out⟩
            case measure => simp [intOf]; omega
          · obtain ⟨m, hm⟩ : ∃ m : Nat, (m : Int) = (ry + (j : Int)) * p + (rx + (i : Int)) := ⟨((ry + (j : Int)) * p + (rx + (i : Int))).toNat, by have := row_le h1 h2 hs; have := ownB_yes hs; omega⟩
            have hmL : m < D.length := by have := row_le h1 h2 hs; have := HL.out; omega
            cases hd : ownB p h (tx + (i : Int)) (ty + (j : Int))
            · have SK := hideP (cpL_skip (p := p) (h := h) (rx := rx) (ry := ry) (rp := rp) (rh := rh) (tx := tx) (ty := ty) (u := (i : Int)) (v := (j : Int)) (D := D) hp0 HC.out (.inr hd))
              rw [hs] at HO1
              rw [hd] at HO2
              have HO1' := hideP HO1
              have HO2' := hideP HO2
              clear HO1 HO2 hs hd hm
              go_wp2
              refine wp_region_wq (by kernel_rfl) (by kernel_rfl) ?_
              repeat (first | (refine wq_up _ (by first | exact wanted_free rfl | exact wanted_yes rfl rfl | exact wanted_no rfl rfl | exact wanted_lost rfl rfl) (by first | with_reducible rfl | decide) ?_; apply Exists.intro; refine ⟨fun w1 k1 => ?_, fun K hK => ?_⟩; (focus (have hc := Kept.cell k1; go_simp; first | done | rfl | (go_at_call 48; with_reducible exact kept_call k1 (HO1'.out _)) | (go_at_call 48; with_reducible exact kept_call k1 (HO2'.out _)))); (go_simp; refine hK _ ?_; clear hK K)) | (refine wq_off _ (by first | exact wanted_free rfl | exact wanted_yes rfl rfl | exact wanted_no rfl rfl | exact wanted_lost rfl rfl) (by first | with_reducible rfl | decide) ?_; intro K hK; go_simp; refine hK _ ?_; clear hK K))
              refine wq_nil ?_
              intro w9 k9
              replace k9 := Kept.below k9
              have hc9 := Kept.cell k9
              have hf9 := Kept.frozen k9
              have hz9 := k9.size
              try simp only [World.size_alloc] at hz9
              try simp only [World.size_setCell] at hz9
              try simp only [World.size_drew] at hz9
              try (first | have hs9 := sz12 hz9 | have hs9 := sz11 hz9 | have hs9 := sz10 hz9 | have hs9 := sz9 hz9 | have hs9 := sz8 hz9 | have hs9 := sz7 hz9 | have hs9 := sz6 hz9 | have hs9 := sz5 hz9 | have hs9 := sz4 hz9 | have hs9 := sz3 hz9 | have hs9 := sz2 hz9 | have hs9 := sz1 hz9)
              have HF9 := hideP (HF3.out.keep k9)
              have HK9 := hideP (HK3.out.trans (k9.mono hsz3))
              clear d0 d1 d2 d3 a0 a1 a2 a3 a6 k9 hc9 hf9 HO1' HO2'
              go_wp2
              go_roundw
              case rel => exact ⟨i + 1, by omega, by go_num, HK9.out, by rw [show ((i + 1 : Nat) : Int) = (i : Int) + 1 by omega, ← SK.out]; exact HF9.out⟩
              case measure => simp [intOf]; omega
            · obtain ⟨q, hq⟩ : ∃ q : Nat, (q : Int) = (ty + (j : Int)) * p + (tx + (i : Int)) := ⟨((ty + (j : Int)) * p + (tx + (i : Int))).toNat, by have := row_le h1 h2 hd; have := ownB_yes hd; omega⟩
              have hqL : q < D.length := by have := row_le h1 h2 hd; have := HL.out; omega
              have hqi : (q : Int) < 48 := by omega
              have hmi : (m : Int) < 48 := by omega
              have ST := hideP (cpL_set (p := p) (h := h) (rx := rx) (ry := ry) (rp := rp) (rh := rh) (tx := tx) (ty := ty) (u := (i : Int)) (v := (j : Int)) (D := D) HC.out ⟨by omega, hi2⟩ ⟨by omega, hj2⟩ hs hd hq hm hmL)
              have PO1 := fun w1 => placeOf_any x y p h (rx + (i : Int)) (ry + (j : Int)) w1 h1 h2 hs
              have PO2 := fun w1 => placeOf_any x y p h (tx + (i : Int)) (ty + (j : Int)) w1 h1 h2 hd
              rw [← hm] at PO1
              rw [← hq] at PO2
              have PO1' := hideP PO1
              have PO2' := hideP PO2
              rw [hs] at HO1
              rw [hd] at HO2
              have HO1' := hideP HO1
              have HO2' := hideP HO2
              clear HO1 HO2 hs hd hm hq PO1 PO2
              go_wp2
              refine wp_region_wq (by kernel_rfl) (by kernel_rfl) ?_
              repeat (first | (refine wq_up _ (by first | exact wanted_free rfl | exact wanted_yes rfl rfl | exact wanted_no rfl rfl | exact wanted_lost rfl rfl) (by first | with_reducible rfl | decide) ?_; apply Exists.intro; refine ⟨fun w1 k1 => ?_, fun K hK => ?_⟩; (focus (have hc := Kept.cell k1; go_simp; first | done | rfl | (go_at_call 48; with_reducible exact kept_call k1 (HO1'.out _)) | (go_at_call 48; with_reducible exact kept_call k1 (HO2'.out _)))); (go_simp; refine hK _ ?_; clear hK K)) | (refine wq_off _ (by first | exact wanted_free rfl | exact wanted_yes rfl rfl | exact wanted_no rfl rfl | exact wanted_lost rfl rfl) (by first | with_reducible rfl | decide) ?_; intro K hK; go_simp; refine hK _ ?_; clear hK K))
              refine wq_nil ?_
              intro w9 k9
              replace k9 := Kept.below k9
              have hc9 := Kept.cell k9
              have hf9 := Kept.frozen k9
              have hz9 := k9.size
              try simp only [World.size_alloc] at hz9
              try simp only [World.size_setCell] at hz9
              try simp only [World.size_drew] at hz9
              try (first | have hs9 := sz12 hz9 | have hs9 := sz11 hz9 | have hs9 := sz10 hz9 | have hs9 := sz9 hz9 | have hs9 := sz8 hz9 | have hs9 := sz7 hz9 | have hs9 := sz6 hz9 | have hs9 := sz5 hz9 | have hs9 := sz4 hz9 | have hs9 := sz3 hz9 | have hs9 := sz2 hz9 | have hs9 := sz1 hz9)
              have HF9 := hideP (HF3.out.keep k9)
              have hk9 := HK3.out.trans (k9.mono hsz3)
              have HK9 := hideP hk9
              have hsz9 : B8 ≤ w9.heap.size := Nat.le_trans hWsz hk9.size
              clear d0 d1 d2 d3 a0 a1 a2 a3 a6 k9 hc9 hf9 HO1' HO2'
              obtain ⟨d0, d1, d2, d3⟩ := HRb.out _ hk9
              simp only [Nat.zero_add] at d0 d1 d2 d3
              obtain ⟨⟨a0, a1, a2, a3, a6, _⟩, hgr9⟩ := HPi.out _ _ HF9.out
              have hbr9 : w.heap.size < w9.heap.size := by omega
              obtain ⟨c8, hg8⟩ := HF9.out.cell8 hmL
              obtain ⟨dm, hdm⟩ : ∃ dm, D[m] = dm := ⟨_, rfl⟩
              rw [hdm] at c8 ST
              have hqF : q < (cpL p h rx ry rp rh tx ty D (i : Int) (j : Int)).length := by rw [cpL_len]; exact hqL
              have HQF := hideP hqF
              clear hdm hqF hk9
              go_wp2
              refine wp_region_kept_tail 27 (by kernel_rfl) (by kernel_rfl) ?_
              simp only [List.take_succ_cons, List.take_zero, List.drop_succ_cons, List.drop_zero]
              repeat (refine kept_step (by rfl) ?_; apply Exists.intro; refine ⟨fun w1 k1 => ?_, fun K hK => ?_⟩; (focus (have hc := Kept.cell k1; go_simp; first | done | rfl | (go_at_call 49; with_reducible exact kept_call k1 (PO1'.out _)) | (go_at_call 49; with_reducible exact kept_call k1 (PO2'.out _)))); (go_simp; refine hK _ ?_; clear hK K))
              refine wpQuiet_nil ?_
              intro w10 k10
              replace k10 := Kept.below k10
              have hc10 := Kept.cell k10
              have hf10 := Kept.frozen k10
              have hz10 := k10.size
              try simp only [World.size_alloc] at hz10
              try simp only [World.size_setCell] at hz10
              try simp only [World.size_drew] at hz10
              try (first | have hs10 := sz12 hz10 | have hs10 := sz11 hz10 | have hs10 := sz10 hz10 | have hs10 := sz9 hz10 | have hs10 := sz8 hz10 | have hs10 := sz7 hz10 | have hs10 := sz6 hz10 | have hs10 := sz5 hz10 | have hs10 := sz4 hz10 | have hs10 := sz3 hz10 | have hs10 := sz2 hz10 | have hs10 := sz1 hz10)
              have HF10 := HF9.out.keep k10
              have hk10 := HK9.out.trans (k10.mono hsz9)
              obtain ⟨cq0, hB9, cf⟩ := HF10.cell9 HQF.out
              obtain ⟨dq, cq⟩ : ∃ dq : Int, w10.cell? ⟨B8 + 1, q, none⟩ = some (.int .i64 dq) := ⟨_, cq0⟩
              clear cq0
              have HF11 := HF10.one HQF.out dm (by omega) (by omega)
              rw [ST.out] at HF11
              have HF11' := hideP HF11
              have HK11 := hideP (hk10.setCell (p := ⟨B8 + 1, q, none⟩) (by show B8 ≤ B8 + 1; omega) (.int .i64 dm))
              clear k10 hc10 hf10 HF10 HF11 c8 a0 a1 a2 a3 a6 d0 d1 d2 d3 hk10 PO1' PO2'
              go_wp2
              go_roundw
              case rel => exact ⟨i + 1, by omega, by go_num, HK11.out, HF11'.out⟩
              case measure => simp [intOf]; omega
        · obtain rfl : rp = (i : Int) := by omega
          go_wp2
          go_roundw
          case rel => exact ⟨j + 1, by omega, by go_num, HK3.out, by rw [show ((j + 1 : Nat) : Int) = (j : Int) + 1 by omega, ← cpL_row]; exact HF3.out⟩
          case measure => simp [intOf]; omega
    · obtain rfl : rh = (j : Int) := by omega
      rw [cpL_end] at HF2
      obtain ⟨⟨a0, a1, a2, a3, a6, _⟩, hgr⟩ := HPi.out _ _ HF2.out
      have hB9 := HF2.out.pnt.lt
      clear d0 d1 d2 d3
      go_wp2
      refine wp_region_kept_tail 5 (by kernel_rfl) (by kernel_rfl) ?_
      simp only [List.take_succ_cons, List.take_zero, List.drop_succ_cons, List.drop_zero]
      repeat (refine kept_step (by rfl) ?_; apply Exists.intro; refine ⟨fun w1 k1 => ?_, fun K hK => ?_⟩; (focus (have hc := Kept.cell k1; go_simp; first | done | rfl)); (go_simp; refine hK _ ?_; clear hK K))
      refine wpQuiet_nil ?_
      intro w13 k13
      replace k13 := Kept.below k13
      have hc13 := Kept.cell k13
      have hf13 := Kept.frozen k13
      have hz13 := k13.size
      try simp only [World.size_alloc] at hz13
      try simp only [World.size_setCell] at hz13
      try simp only [World.size_drew] at hz13
      try (first | have hs13 := sz12 hz13 | have hs13 := sz11 hz13 | have hs13 := sz10 hz13 | have hs13 := sz9 hz13 | have hs13 := sz8 hz13 | have hs13 := sz7 hz13 | have hs13 := sz6 hz13 | have hs13 := sz5 hz13 | have hs13 := sz4 hz13 | have hs13 := sz3 hz13 | have hs13 := sz2 hz13 | have hs13 := sz1 hz13)
      have HF13 := HF2.out.keep k13
      have PS13 : PS w w13 bg D := PS.keep ⟨Far.refl _ _ _, HW.out⟩ HF13.k hbg
      have hcl : (copyL p h rx ry rp (j : Int) tx ty D).length = D.length := copyL_len
      have hsrc : ∀ i v, ((copyL p h rx ry rp (j : Int) tx ty D).map (Value.int .i64))[i]? = some v → w13.cell? ((⟨B8 + 1, 0, none⟩ : Addr).add i) = some v := fun i v hv => by
        have hi : i < (copyL p h rx ry rp (j : Int) tx ty D).length := by have := (List.getElem?_eq_some_iff.1 hv).1; simpa using this
        have hadd : (⟨B8 + 1, 0, none⟩ : Addr).add i = ⟨B8 + 1, i, none⟩ := by unfold Addr.add; split <;> simp_all
        rw [hadd, (HF13.cell9 hi).1, ← hv]
        simp [hi]
      have PO := hideP (PS13.over hcl)
      refine wpList_copy_cells rfl _ _ 37 37 rfl 2 Try.underlying37 Try.infoI64p bg 0 D.length ca ⟨B8 + 1, 0, none⟩ 48 48 rfl rfl ((copyL p h rx ry rp (j : Int) tx ty D).map (Value.int .i64)) (by rw [List.length_map, hcl]; exact (Nat.min_eq_right hlen').symm) hsrc
        (fun i hi => by rw [(PS13.wrt.cells (n := i) (by rw [← hcl]; simpa using hi)).2.2.1]; rfl) (fun i hi => (PS13.wrt.cells hlt0).2.2.2 _) (fun v hv => by obtain ⟨x, _, rfl⟩ := List.mem_map.1 hv; rfl) ?_
      clear hsrc PS13 HF13 k13 hc13 hf13 hcl a0 a1 a2 a3 a6
      go_wp2
      go_returns
      exact ⟨rfl, PO.out⟩
end Go.Proofs.Ytclfobpmafkgfaa
