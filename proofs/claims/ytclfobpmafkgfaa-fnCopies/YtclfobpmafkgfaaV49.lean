/- What is to be seen of a stack where a window was copied into itself. Mathematics. What FnCopies draws: a stack, an id, a rectangle and a place. -/
import Derived.Test.YtclfobpmafkgfaaV24
import Derived.Test.YtclfobpmafkgfaaV48
import Derived.Test.YtclfobpmafkgfaaV41
namespace Go.Proofs.Ytclfobpmafkgfaa
open Go.RowKit Go.Maps
set_option linter.unusedVariables false

theorem copy_ok {C : List Wc} {id rx ry rp rh tx ty : Int} (h : copyZ C id rx ry rp rh tx ty = 0) : stF C = 0 ∧ rfB rx ry rp rh = false ∧ nearB tx ty = true ∧ (copyP C id rx ry rp rh tx ty = C.map fun c => if c.i = id then copyC rx ry rp rh tx ty c else c) ∧ askW C id = 0 := by
  have hp : ptpZ C id rx ry rp rh = 0 := by
    by_cases e : ptpZ C id rx ry rp rh = 0
    · exact e
    · rw [copyZ_bad e] at h; exact h
  obtain ⟨h1, h2⟩ := ptp_ok hp
  have h0 : stF C = 0 := by
    by_cases e : stF C = 0
    · exact e
    · rw [askW_bad e] at h1; exact h1
  refine ⟨h0, h2, ?_, ?_, h1⟩
  · rw [copyZ_yes hp] at h
    by_cases e : nearB tx ty = true
    · exact e
    · rw [if_neg e] at h; exact absurd h (by decide)
  · unfold copyP
    rw [if_pos h, modW_nodup (idsF_ok (stF_ok h0).1).2]
theorem copy_len {C : List Wc} {id rx ry rp rh tx ty : Int} (h : copyZ C id rx ry rp rh tx ty = 0) : (copyP C id rx ry rp rh tx ty).length = C.length := by
  rw [(copy_ok h).2.2.2.1, List.length_map]
theorem getD_byte {D : List Int} (h : D.all byB = true) (n : Nat) : byB (D.getD n 0) = true := by
  rw [List.getD_eq_getElem?_getD]
  by_cases hn : n < D.length
  · rw [List.getElem?_eq_getElem hn, Option.getD_some]
    exact List.all_eq_true.1 h _ (List.getElem_mem hn)
  · rw [List.getElem?_eq_none (by omega)]
    rfl
theorem copy_st {C : List Wc} {id rx ry rp rh tx ty : Int} (h : copyZ C id rx ry rp rh tx ty = 0) : stF (copyP C id rx ry rp rh tx ty) = 0 := by
  obtain ⟨h0, h1, h2, h3, -⟩ := copy_ok h
  obtain ⟨i0, w0⟩ := stF_ok h0
  have hi : (copyP C id rx ry rp rh tx ty).map Wc.i = C.map Wc.i := by
    rw [h3, List.map_map]
    apply List.map_congr_left
    intro c _
    show (if c.i = id then copyC rx ry rp rh tx ty c else c).i = c.i
    split <;> rfl
  rw [stF_ws (by rw [hi]; exact i0), h3]
  apply wsF_all
  intro t ht
  obtain ⟨c, hc, rfl⟩ := List.mem_map.1 ht
  have hw := wsF_mem w0 c hc
  split
  · obtain ⟨a1, a2, a3⟩ := winF_no hw
    refine winF_ok (c := copyC rx ry rp rh tx ty c) a1 ?_ ?_
    · show ((copyL c.w c.h rx ry rp rh tx ty c.L).length : Int) = c.w * c.h
      rw [copyL_len]; exact a2
    · show (copyL c.w c.h rx ry rp rh tx ty c.L).all byB = true
      exact pntL_all a3 fun _ _ _ => getD_byte a3 _
  · exact hw
/-- What a point shows once a rectangle was copied. -/
theorem copy_pt {C : List Wc} {id rx ry rp rh tx ty : Int} (h : copyZ C id rx ry rp rh tx ty = 0) {k : Nat} (hk : k < C.length) {a b : Int} (a0 : 0 ≤ a) (a1 : a < C[k].w) (b0 : 0 ≤ b) (b1 : b < C[k].h) :
    ptV (copyP C id rx ry rp rh tx ty) C[k].i a b = if C[k].i = id ∧ celZ C[k] (a - tx + rx) (b - ty + ry) = 0 ∧ inB rx ry rp rh (a - tx + rx) (b - ty + ry) = true then celV C[k] (a - tx + rx) (b - ty + ry) else celV C[k] a b := by
  obtain ⟨h0, h1, h2, h3, -⟩ := copy_ok h
  have hs := copy_st h
  have hk' : k < (copyP C id rx ry rp rh tx ty).length := by rw [copy_len h]; exact hk
  have e : (copyP C id rx ry rp rh tx ty)[k] = if C[k].i = id then copyC rx ry rp rh tx ty C[k] else C[k] := by
    simp only [h3, List.getElem_map]
  have ei : (copyP C id rx ry rp rh tx ty)[k].i = C[k].i := by rw [e]; split <;> rfl
  have hm : C[k] ∈ C := List.getElem_mem hk
  have hm' := List.getElem_mem hk'
  have p1 := pt_nth hs hk' a b
  rw [ei] at p1
  rw [p1]
  have ho : ownB C[k].w C[k].h a b = true := ownB_of ⟨a0, a1, b0, b1⟩
  have st1 := stF_each h0 hm
  have c1 := (cel_in (a := a) (b := b) st1 ho).2
  by_cases hid : C[k].i = id
  · rw [if_pos hid] at e
    have hs1 := stF_each hs hm'
    rw [e] at hs1 ⊢
    have c2 := (cel_in (c := copyC rx ry rp rh tx ty C[k]) (a := a) (b := b) hs1 ho).2
    rw [c2]
    obtain ⟨q1, q2, q3⟩ := winF_no (wsF_mem (stF_ok h0).2 _ hm)
    obtain ⟨_, _, q4, q5, _⟩ := wrB_no q1
    obtain ⟨r1, r2, r3⟩ := row_le q4 q5 ho
    have hn : (b * C[k].w + a).toNat < C[k].L.length := by omega
    have hp := pntL_at (P := cB C[k].w C[k].h rx ry rp rh tx ty) (f := cF C[k].w rx ry tx ty C[k].L) hn a0 a1 (show (((b * C[k].w + a).toNat : Nat) : Int) = b * C[k].w + a by omega)
    show (pntL C[k].w (cB C[k].w C[k].h rx ry rp rh tx ty) (cF C[k].w rx ry tx ty C[k].L) C[k].L).getD _ 0 = _
    rw [List.getD_eq_getElem?_getD, List.getElem?_eq_getElem (by rw [pntL_len]; exact hn), Option.getD_some]
    refine hp.trans ?_
    rw [c1, List.getD_eq_getElem?_getD, List.getElem?_eq_getElem hn, Option.getD_some]
    by_cases hc : cB C[k].w C[k].h rx ry rp rh tx ty a b = true
    · obtain ⟨g1, g2⟩ := cB_yes hc
      obtain ⟨z1, z2⟩ := cel_in st1 g2
      rw [if_pos hc, if_pos ⟨hid, z1, by unfold inB; simp; omega⟩, z2]
      rfl
    · rw [if_neg hc, if_neg]
      rintro ⟨-, f1, f2⟩
      apply hc
      refine cB_of ?_ ?_
      · unfold inB at f2
        simp at f2
        omega
      · cases g : ownB C[k].w C[k].h (a - tx + rx) (b - ty + ry)
        · rw [(cel_out st1 g).1] at f1; exact absurd f1 (by decide)
        · rfl
  · rw [if_neg hid] at e
    rw [e, if_neg (fun e => hid e.1)]
end Go.Proofs.Ytclfobpmafkgfaa

namespace Go.Proofs.Ytclfobpmafkgfaa
open Go.RowKit
set_option linter.unusedVariables false

set_option maxRecDepth 100000 in
set_option maxHeartbeats 2000000 in
theorem drawCopy_any (w : World) (a : Option Addr) (len cap : Nat) (f : Nat → Int) (hB : Bytes w w.heap.size a len f) (hl : len ≤ 1048576) :
    Calls Try.prog 21 #[.slice a len cap] w (DrawW w fun vs => ∃ n rx ry rp rh c d : Int, vs = #[.int .i64 n, .agg #[.int .i64 rx, .int .i64 ry, .int .i64 rp, .int .i64 rh], .int .i64 c, .int .i64 d]) := by
  have ka := (Below.refl w.heap.size w).alloc (Nat.le_refl _) (.cells #[.int .i64 0, .int .i64 0, .int .i64 0, .int .i64 0] 26)
  have S0 := hideP (Src.neww w _ (w.heap.size + 1) a len cap f 104 hB hl ka (by simp))
  have Q0 := hideP ((q4_new w (.int .i64 0) (.int .i64 0) (.int .i64 0) (.int .i64 0) 26).far (Far.of_below (lo := 0) (hi := 0) ((Below.refl _ _).alloc (Nat.le_refl _) (.cells #[.slice a len cap, .int .i64 0] 104))) (.inr (Nat.zero_le _)))
  have KA := hideP (ka.alloc (by simp) (.cells #[.slice a len cap, .int .i64 0] 104))
  clear hB ka
  go_enter Try.func21, Try.ntmps21
  go_wp2_with (first | (go_at_call 36; go_in))
  refine Calls.mono (wbent_any _ _ _ a len cap f 0 S0.out (by omega) (by omega)) ?_
  rintro e w1 ⟨so, sc, M, u, rfl, hM, hz, u0, u1, hW, ht, hs⟩
  have W1 := hideP hW
  have n1 := ht.size
  simp only [World.size_alloc] at n1 hW
  have T1 := hideP ht
  have S1 := hideP hs
  clear ht hs S0 hW
  go_wp2_with fail
  refine Calls.mono (wid_any w1 w.heap.size (w.heap.size + 1) a len cap f u S1.out u0 (by omega) _ _ so sc M W1.out (by simp) (Nat.le_refl _) hM) ?_
  rintro e w2 ⟨id, u2, rfl, v0, v1, ht, hs⟩
  have T2 := hideP (T1.out.trans ht)
  have W2 := hideP (W1.out.turn ht (by simp) (Nat.le_refl _))
  have S2 := hideP hs
  have n2 := ht.size
  clear ht hs S1 W1 T1
  go_wp2_with fail
  refine Calls.mono (rbent_any w2 _ _ a len cap f u2 S2.out v0 (by omega)) ?_
  rintro e w3 ⟨⟨rx, ry, rp, rh⟩, u3, rfl, ht, x0, x1, hs⟩
  have T3 := hideP (T2.out.trans ht)
  have W3 := hideP (W2.out.turn ht (by simp) n2)
  have S3 := hideP hs
  have n3 := Nat.le_trans n2 ht.size
  clear ht hs S2 W2 T2 n2
  go_wp2_with fail
  refine Calls.mono (pick5 (fun _ => True) w3 _ _ a len cap f u3 _ 2 5 w3.heap.size rfl (inbL5 [0, 1, 2, -1, 21] (by simp)) S3.out (by omega) (by omega) (by omega) (by omega)) ?_
  rintro e w4 ⟨y0, rfl, -, ht, hs⟩
  have T4 := hideP (T3.out.trans ht)
  have W4' := hideP (W3.out.turn ht (by simp) n3)
  have S4 := hideP hs
  have n4' := Nat.le_trans n3 ht.size
  clear ht hs S3 W3 T3 n3
  go_wp2_with fail
  refine Calls.mono (pick5 (fun _ => True) w4 _ _ a len cap f (u3 + 1) _ 2 3 w4.heap.size rfl (inbL5 [0, 1, -2] (by simp)) S4.out (by omega) (by omega) (by omega) (by omega)) ?_
  rintro e w6 ⟨y, rfl, -, ht, hs⟩
  have K4 := hideP (Turn.below KA.out (Nat.le_succ _) (by simp only [World.size_alloc]; omega) (T4.out.trans ht))
  have Q4' := hideP (Q0.out.turn (T4.out.trans ht) (by simp))
  have W4 := hideP (W4'.out.turn ht (by simp) n4')
  have n4 := Nat.le_trans n4' ht.size
  clear ht hs S4 W4' T4 n4' Q0
  obtain ⟨q0, q1, q2, q3, qf, ql⟩ := Q4'.out
  go_wp2
  clear q0 q1 q2 q3 qf ql
  obtain ⟨k5, W5, n5⟩ := drawn_set K4.out W4.out n4 (g := w.heap.size) (o := 0) (by simp; omega) (Nat.le_refl _) (.int .i64 rx)
  obtain ⟨k6, W6, n6⟩ := drawn_set k5 W5 n5 (g := w.heap.size) (o := 1) (by simp; omega) (Nat.le_refl _) (.int .i64 ry)
  obtain ⟨k7, W7, n7⟩ := drawn_set k6 W6 n6 (g := w.heap.size) (o := 2) (by simp; omega) (Nat.le_refl _) (.int .i64 rp)
  obtain ⟨k8, W8, n8⟩ := drawn_set k7 W7 n7 (g := w.heap.size) (o := 3) (by simp; omega) (Nat.le_refl _) (.int .i64 rh)
  have P8 := W8.wide (lo' := w.heap.size) (by simp; omega) n8
  clear k5 W5 n5 k6 W6 n6 k7 W7 n7 W8 W4 K4
  have HK := hideP k8
  have HP := hideP P8
  obtain ⟨q0, q1, q2, q3, qf, ql⟩ := Q4'.out.put (.int .i64 rx) (.int .i64 ry) (.int .i64 rp) (.int .i64 rh)
  clear k8 P8 Q4' n8
  generalize (((w6.setCell ⟨w.heap.size, 0, none⟩ (.int .i64 rx)).setCell ⟨w.heap.size, 1, none⟩ (.int .i64 ry)).setCell ⟨w.heap.size, 2, none⟩ (.int .i64 rp)).setCell ⟨w.heap.size, 3, none⟩ (.int .i64 rh) = w5 at *
  refine bodyPost_ret (v := .tuple #[.slice so M.length sc, .int .i64 id, .agg #[.int .i64 rx, .int .i64 ry, .int .i64 rp, .int .i64 rh], .int .i64 y0, .int .i64 y]) (by simp [results, Try.results21, go_sem, q0, q1, q2, q3]) rfl ⟨so, sc, M, #[.int .i64 id, .agg #[.int .i64 rx, .int .i64 ry, .int .i64 rp, .int .i64 rh], .int .i64 y0, .int .i64 y], rfl, ⟨_, _, _, _, _, _, _, rfl⟩, hM, hz, HK.out, HP.out⟩

end Go.Proofs.Ytclfobpmafkgfaa
