/- Faults of windows and of stacks: the program's side. -/
import Derived.Test.YtejgcheddloffaaTr15
import Derived.Test.YtejgcheddloffaaTr8
namespace Go.Proofs.Ytejgcheddloffaa
open Go.RowKit Go.Maps
set_option linter.unusedVariables false

set_option maxRecDepth 100000 in
set_option maxHeartbeats 1000000 in
theorem fow_rect (i x y p h : Int) (m : Bool) (ao : Option Addr) (n ca : Nat) (w : World) (e : wrB x y p h = true) :
    Calls Try.prog 38 #[.agg #[.int .i64 i, .int .i64 x, .int .i64 y, .int .i64 p, .int .i64 h, .bool m, .slice ao n ca]] w fun e w' => e = .returned (.int .i64 3) ∧ Below w.heap.size w w' := by
  have AR := hideP (fun w => area_no x y p h w e)
  clear e
  go_enter Try.func38, Try.ntmps38
  go_wp2_with fail
  refine Calls.mono (AR.out _) ?_
  rintro e w1 ⟨rfl, k1⟩
  have K1 : Hid (Below w.heap.size w w1) := hideP (Below.trans (by go_grown) (k1.mono (by simp; omega)))
  clear k1
  go_wp2
  go_returns
  exact ⟨rfl, K1.out⟩

set_option maxRecDepth 100000 in
set_option maxHeartbeats 2000000 in
theorem fow_ok (lo hi : Nat) (i x y p h : Int) (m : Bool) (ao : Option Addr) (ca : Nat) (D : List Int) (w : World) (hR : Row .i64 w lo hi ao D) (hs : hi ≤ w.heap.size) (hl : D.length ≤ 1048576) (e : wrB x y p h = false) :
    Calls Try.prog 38 #[.agg #[.int .i64 i, .int .i64 x, .int .i64 y, .int .i64 p, .int .i64 h, .bool m, .slice ao D.length ca]] w fun e w' => e = .returned (.int .i64 (winF ⟨i, x, y, p, h, m, D⟩)) ∧ Below w.heap.size w w' := by
  have hl' : (D.length : Int) ≤ 1048576 := by omega
  have AR := hideP (fun w => area_ok x y p h w e)
  obtain ⟨_, _, h1, h2, _⟩ := wrB_no e
  have CT := hideP (fun w => count_any x y p h w h1 h2)
  have WM := fun h2 => winF_many (c := ⟨i, x, y, p, h, m, D⟩) e h2
  have WB := fun h2 h3 => winF_byte (c := ⟨i, x, y, p, h, m, D⟩) e h2 h3
  have WO := fun h2 h3 => winF_ok (c := ⟨i, x, y, p, h, m, D⟩) e h2 h3
  simp only at WM WB WO
  obtain ⟨q, hq⟩ : ∃ q, p * h = q := ⟨_, rfl⟩
  rw [hq] at CT WM WB WO
  generalize winF ⟨i, x, y, p, h, m, D⟩ = F at *
  have HR := hideP hR
  clear e hq h1 h2 hR
  go_enter Try.func38, Try.ntmps38
  go_wp2_with fail
  refine Calls.mono (AR.out _) ?_
  rintro e w1 ⟨rfl, k1⟩
  have K1 : Hid (Below w.heap.size w w1) := hideP (Below.trans (by go_grown) (k1.mono (by simp; omega)))
  have c6 : w1.cell? ⟨w.heap.size, 6, none⟩ = some (.slice ao D.length ca) := (k1.cell (p := ⟨w.heap.size, 6, none⟩) (by simp; omega)).trans (by go_simp)
  have d0 : w1.cell? ⟨w.heap.size + 1, 0, none⟩ = some (.int .i64 x) := (k1.cell (p := ⟨w.heap.size + 1, 0, none⟩) (by simp)).trans (by go_simp)
  have d1 : w1.cell? ⟨w.heap.size + 1, 1, none⟩ = some (.int .i64 y) := (k1.cell (p := ⟨w.heap.size + 1, 1, none⟩) (by simp)).trans (by go_simp)
  have d2 : w1.cell? ⟨w.heap.size + 1, 2, none⟩ = some (.int .i64 p) := (k1.cell (p := ⟨w.heap.size + 1, 2, none⟩) (by simp)).trans (by go_simp)
  have d3 : w1.cell? ⟨w.heap.size + 1, 3, none⟩ = some (.int .i64 h) := (k1.cell (p := ⟨w.heap.size + 1, 3, none⟩) (by simp)).trans (by go_simp)
  have n1 : w.heap.size + 1 < w1.heap.size := by have := k1.size; simp at this; omega
  have n0 : w.heap.size < w1.heap.size := by omega
  clear k1
  by_cases hm : (D.length : Int) = q
  · have hne : ((D.length : Int) != q) = false := by simpa using hm
    have WB' := hideP (WB hm)
    have WO' := hideP (WO hm)
    clear WM WB WO
    go_wp2
    refine wp_region_kept (by kernel_rfl) (by kernel_rfl) ?_
    repeat (refine kept_step (by rfl) ?_; apply Exists.intro; refine ⟨fun w1 k1 => ?_, fun K hK => ?_⟩; (focus (have hc := Kept.cell k1; go_simp; first | done | rfl | (go_at_call 26; exact kept_call k1 (CT.out _)))); (go_simp; refine hK _ ?_; clear hK K))
    refine wpQuiet_nil ?_
    intro w5 k5
    replace k5 := Kept.below k5
    have hc5 := Kept.cell k5
    have hf5 := Kept.frozen k5
    have hz5 := k5.size
    try simp only [World.size_alloc] at hz5
    try simp only [World.size_setCell] at hz5
    try simp only [World.size_drew] at hz5
    have hb5_0 : w.heap.size < w5.heap.size ∧ w.heap.size ≤ w5.heap.size ∧ w.heap.size ≤ w5.heap.size + 1 ∧ ¬ w.heap.size = w5.heap.size ∧ ¬ w.heap.size = w5.heap.size + 1 := by omega
    have hb5_1 : w.heap.size + 1 < w5.heap.size ∧ w.heap.size + 1 ≤ w5.heap.size ∧ w.heap.size + 1 ≤ w5.heap.size + 1 ∧ ¬ w.heap.size + 1 = w5.heap.size ∧ ¬ w.heap.size + 1 = w5.heap.size + 1 := by omega
    have K5 := hideP (K1.out.trans (k5.mono (by omega)))
    have HR5 := hideP (HR.out.keep K5.out hs)
    clear hm
    go_wp2
    go_loop [23] (fun i => ∃ j : Nat, j ≤ D.length ∧ i = .int .i64 j ∧ (D.take j).all byB = true) (fun i => D.length - (intOf i).toNat)
    case atStart => exact ⟨0, Nat.zero_le _, rfl, rfl⟩
    case round =>
      obtain ⟨j, hj, rfl, hall⟩ := hrel
      by_cases hlt : j < D.length
      · have hlt' : (j : Int) < (D.length : Int) := by omega
        have hne' : D ≠ [] := fun e => by rw [e] at hlt; simp at hlt
        rcases HR5.out with e | ⟨g, o, rfl, _, hg, hc⟩
        · exact absurd e hne'
        have a0 := hc j hlt
        have hgl : g < w5.heap.size := by have := K5.out.size; omega
        have HBad := hideP (all_badW hlt)
        have HOn := hideP (all_snocW hlt hall)
        clear hc hall HR HR5 hne'
        generalize D[j] = z at *
        cases hz : byB z
        · have hF := hideP (WB'.out (HBad.out hz))
          clear HBad HOn WB' WO'
          go_wp2_with (go_at_call 63; refine Calls.mono (byte7_any _ _) ?_; rintro e w1 ⟨rfl, rfl⟩; rw [hz])
          go_returns
          exact ⟨by rw [hF.out]; rfl, K5.out⟩
        · have hO := hideP (HOn.out hz)
          clear HBad HOn
          go_wp2_with (go_at_call 63; refine Calls.mono (byte7_any _ _) ?_; rintro e w1 ⟨rfl, rfl⟩; rw [hz])
          go_round
          case rel => exact ⟨j + 1, by omega, by go_num, hO.out⟩
          case measure => simp [intOf]; omega
      · obtain rfl : j = D.length := by omega
        rw [List.take_length] at hall
        have hF := hideP (WO'.out hall)
        clear hall WB' WO'
        go_wp2
        go_returns
        exact ⟨by rw [hF.out]; rfl, K5.out⟩
  · have hne : ((D.length : Int) != q) = true := by simpa using hm
    have hF := hideP (WM hm)
    clear WM WB WO hm
    go_wp2
    refine wp_region_kept (by kernel_rfl) (by kernel_rfl) ?_
    repeat (refine kept_step (by rfl) ?_; apply Exists.intro; refine ⟨fun w1 k1 => ?_, fun K hK => ?_⟩; (focus (have hc := Kept.cell k1; go_simp; first | done | rfl | (go_at_call 26; exact kept_call k1 (CT.out _)))); (go_simp; refine hK _ ?_; clear hK K))
    refine wpQuiet_nil ?_
    intro w5 k5
    replace k5 := Kept.below k5
    have hc5 := Kept.cell k5
    have hf5 := Kept.frozen k5
    have hz5 := k5.size
    try simp only [World.size_alloc] at hz5
    try simp only [World.size_setCell] at hz5
    try simp only [World.size_drew] at hz5
    have hb5_0 : w.heap.size < w5.heap.size ∧ w.heap.size ≤ w5.heap.size ∧ w.heap.size ≤ w5.heap.size + 1 ∧ ¬ w.heap.size = w5.heap.size ∧ ¬ w.heap.size = w5.heap.size + 1 := by omega
    have hb5_1 : w.heap.size + 1 < w5.heap.size ∧ w.heap.size + 1 ≤ w5.heap.size ∧ w.heap.size + 1 ≤ w5.heap.size + 1 ∧ ¬ w.heap.size + 1 = w5.heap.size ∧ ¬ w.heap.size + 1 = w5.heap.size + 1 := by omega
    have K5 := hideP (K1.out.trans (k5.mono (by omega)))
    go_wp2
    go_returns
    exact ⟨by rw [hF.out]; rfl, K5.out⟩

theorem fow_any (lo hi : Nat) (i x y p h : Int) (m : Bool) (ao : Option Addr) (ca : Nat) (D : List Int) (w : World) (hR : Row .i64 w lo hi ao D) (hs : hi ≤ w.heap.size) (hl : D.length ≤ 1048576) :
    Calls Try.prog 38 #[.agg #[.int .i64 i, .int .i64 x, .int .i64 y, .int .i64 p, .int .i64 h, .bool m, .slice ao D.length ca]] w fun e w' => e = .returned (.int .i64 (winF ⟨i, x, y, p, h, m, D⟩)) ∧ Below w.heap.size w w' := by
  cases e : wrB x y p h
  · exact fow_ok lo hi i x y p h m ao ca D w hR hs hl e
  · rw [winF_rect (c := ⟨i, x, y, p, h, m, D⟩) e]
    exact fow_rect i x y p h m ao D.length ca w e

set_option maxRecDepth 100000 in
set_option maxHeartbeats 2000000 in
theorem iStack_two (lo hi : Nat) (so : Option Addr) (sc : Nat) (L : List Wn) (w : World) (hL : Ws w lo hi so L) (hs : hi ≤ w.heap.size) (hn : L.length ≤ 1048576) (hzz : wzs L ≤ 1048576) :
    Calls Try.prog 12 #[.slice so L.length sc] w fun e w' => e = .returned (.int .i64 (stF (L.map Wn.ct))) ∧ Below w.heap.size w w' := by
  have hn' : (L.length : Int) ≤ 1048576 := by omega
  have HL := hideP hL
  have HI : Hid ((L.map Wn.ct).map Wc.i = L.map Wn.i) := hideP (by simp [Wn.ct])
  have hLI : (L.map Wn.i).length ≤ 1048576 := by simp; omega
  have ID := idsIn_any lo hi so sc L w hL hs (by omega)
  obtain ⟨I, hI⟩ : ∃ I, L.map Wn.i = I := ⟨_, rfl⟩
  rw [hI] at HI hLI ID
  have ID' := hideP ID
  clear hL hI ID
  go_enter Try.func12, Try.ntmps12
  go_wp2_with fail
  refine Calls.mono ID'.out ?_
  rintro e w1 ⟨ao, cap, rfl, O1, k1⟩
  have K1 := hideP k1
  have n1 := k1.size
  go_wp2_with fail
  refine Calls.mono (iIds_any w.heap.size w1.heap.size ao cap I w1 (OwnR.wrt O1).row (Nat.le_refl _) hLI) ?_
  rintro e w2 ⟨rfl, k2⟩
  have K2 := hideP (K1.out.trans (k2.mono n1))
  have n2 := k2.size
  clear k1 k2 O1 K1 hLI ID'
  by_cases hid : idsF I = 0
  · have HS := hideP (stF_ws (C := L.map Wn.ct) (by rw [HI.out]; exact hid))
    rw [hid]
    clear hid
    go_wp2
    go_loopw [15] (fun i wr => ∃ X Y : List Wn, X ++ Y = L ∧ i = .int .i64 (X.length : Nat) ∧ wsF (X.map Wn.ct) = 0 ∧ Below w.heap.size w wr) (fun i _ => L.length - (intOf i).toNat)
    case atStart => exact ⟨[], L, rfl, rfl, rfl, K2.out⟩
    case round =>
      obtain ⟨X, Y, hXY, rfl, hF, kb⟩ := hrel
      have hlen : X.length + Y.length = L.length := by rw [← hXY]; simp
      have hz := kb.size
      have HF := hideP hF
      have HB := hideP kb
      clear hF kb K2
      cases Y with
      | cons r Y =>
        have hlt : (X.length : Int) < (L.length : Int) := by simp at hlen; omega
        have hsz : r.b.L.length ≤ wzs L := wzs_mem (v := r) (by rw [← hXY]; simp)
        have h0 := HL.out
        rw [← hXY] at h0
        obtain ⟨g, o, rfl, hg, hc, hon⟩ := Ws.at h0
        obtain ⟨a0, a1, a2, a3, a4, a5, a6⟩ := (hc.keep HB.out (by omega)).seven
        have hgl : g < wr.heap.size := by omega
        have HXY := hideP hXY
        have HR := hideP (Row.keep hon HB.out hs)
        clear h0 hc hXY HL hon
        obtain ⟨ri, rx, ry, rp, rh, rm, ⟨bo, cb, gb, D⟩⟩ := r
        simp only at a0 a1 a2 a3 a4 a5 a6 hsz HR
        go_wp2_with fail
        clear a0 a1 a2 a3 a4 a5 a6
        have ka : Below wr.heap.size wr (wr.alloc (.cells #[.int .i64 ri, .int .i64 rx, .int .i64 ry, .int .i64 rp, .int .i64 rh, .bool rm, .slice bo D.length cb] 38)) := (Below.refl _ _).alloc (Nat.le_refl _) _
        have HB1 := hideP (HB.out.trans (ka.mono hz))
        have HR1 := hideP (HR.out.keep ka (by omega))
        have hz1 := ka.size
        clear ka HB HR
        generalize wr.alloc (.cells #[.int .i64 ri, .int .i64 rx, .int .i64 ry, .int .i64 rp, .int .i64 rh, .bool rm, .slice bo D.length cb] 38) = w3 at *
        refine Calls.mono (fow_any lo hi ri rx ry rp rh rm bo cb D w3 HR1.out (by omega) (by omega)) ?_
        rintro e w4 ⟨rfl, k4⟩
        have HB2 := hideP (HB1.out.trans (k4.mono (by omega)))
        clear k4 HB1 HR1
        by_cases hc : winF ⟨ri, rx, ry, rp, rh, rm, D⟩ = 0
        · have HC := hideP hc
          rw [hc]
          clear hc
          go_wp2
          go_roundw
          case rel => exact ⟨X ++ [⟨ri, rx, ry, rp, rh, rm, ⟨bo, cb, gb, D⟩⟩], Y, midW HXY.out, by simp, by rw [List.map_append]; exact wsF_snoc HF.out HC.out, HB2.out⟩
          case measure => simp [intOf]; omega
        · obtain ⟨c, hcc⟩ : ∃ c, winF ⟨ri, rx, ry, rp, rh, rm, D⟩ = c := ⟨_, rfl⟩
          have hcn : (c != 0) = true := by rw [← hcc]; simpa using hc
          have HE : Hid (stF (L.map Wn.ct) = c) := hideP (by
            rw [HS.out, ← HXY.out, List.map_append, List.map_cons]
            exact (wsF_bad HF.out hc).trans hcc)
          rw [hcc]
          clear hc hcc
          go_wp2
          go_returns
          exact ⟨by rw [HE.out]; rfl, HB2.out⟩
      | nil =>
        have hX : X = L := by simpa using hXY
        subst hX
        have HE : Hid (stF (X.map Wn.ct) = 0) := hideP (HS.out.trans HF.out)
        clear hXY HL HF HS
        go_wp2
        go_returns
        exact ⟨by rw [HE.out]; rfl, HB.out⟩
  · have HS := hideP (stF_ids (C := L.map Wn.ct) (by rw [HI.out]; exact hid))
    rw [HI.out] at HS
    obtain ⟨c, hcc⟩ : ∃ c, idsF I = c := ⟨_, rfl⟩
    have hcn : (c != 0) = true := by rw [← hcc]; simpa using hid
    rw [hcc] at HS ⊢
    clear hid hcc
    go_wp2
    go_returns
    exact ⟨by rw [HS.out]; rfl, K2.out⟩
theorem iStack_any (lo hi : Nat) (so : Option Addr) (sc : Nat) (L : List Wn) (w : World) (hL : Ws w lo hi so L) (hs : hi ≤ w.heap.size) (hn : L.length + wzs L ≤ 1048576) :
    Calls Try.prog 12 #[.slice so L.length sc] w fun e w' => e = .returned (.int .i64 (stF (L.map Wn.ct))) ∧ Below w.heap.size w w' := iStack_two lo hi so sc L w hL hs (by omega) (by omega)

end Go.Proofs.Ytejgcheddloffaa
