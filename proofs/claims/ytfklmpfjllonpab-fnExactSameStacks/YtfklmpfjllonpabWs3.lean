/- Whether two stacks are the same: the model's. -/
import Derived.Test.YtfklmpfjllonpabWs2
namespace Go.Proofs.Ytfklmpfjllonpab
open Go.RowKit
set_option linter.unusedVariables false

set_option maxRecDepth 100000 in
set_option maxHeartbeats 8000000 in
theorem sSameS_any (lo hi lo2 hi2 : Nat) (so so2 : Option Addr) (sc sc2 : Nat) (L M : List Wn) (w : World) (hL : Ws w lo hi so L) (hM : Ws w lo2 hi2 so2 M) (h1 : hi ≤ w.heap.size) (h2 : hi2 ≤ w.heap.size) (hn : L.length + wzs L ≤ 1048576) (hn2 : M.length + wzs M ≤ 1048576) :
    Calls Try.prog 24 #[.slice so L.length sc, .slice so2 M.length sc2] w fun e w' => e = .returned (.bool (decide (L.map Wn.ct = M.map Wn.ct))) ∧ Below w.heap.size w w' := by
  have hl' : (L.length : Int) ≤ 1048576 := by omega
  have HL := hideP hL
  have HM := hideP hM
  clear hL hM
  by_cases hlen : L.length = M.length
  · have hne : ((L.length : Int) != (M.length : Int)) = false := by simp; omega
    have HLen := hideP hlen
    clear hlen
    go_enter Try.func24, Try.ntmps24
    go_wp2
    go_loopw [5] (fun i wr => ∃ X Y X' Y' : List Wn, X ++ Y = L ∧ X' ++ Y' = M ∧ X.length = X'.length ∧ X.map Wn.ct = X'.map Wn.ct ∧ i = .int .i64 (X.length : Nat) ∧ Below w.heap.size w wr) (fun i _ => L.length - (intOf i).toNat)
    case atStart => exact ⟨[], L, [], M, rfl, rfl, rfl, rfl, rfl, Below.refl _ _⟩
    case round =>
      obtain ⟨X, Y, X', Y', hXY, hXY', hXl, hct, rfl, kb⟩ := hrel
      have hlen : X.length + Y.length = L.length := by rw [← hXY]; simp
      have hlen' : X'.length + Y'.length = M.length := by rw [← hXY']; simp
      have hz := kb.size
      have HB := hideP kb
      have HC := hideP hct
      clear kb hct
      cases Y with
      | cons r Y =>
        cases Y' with
        | nil => have := HLen.out; simp at hlen hlen'; omega
        | cons s Y' =>
          have hlt : (X.length : Int) < (L.length : Int) := by simp at hlen; omega
          have hlt2 : (X.length : Int) < (M.length : Int) := by simp at hlen'; omega
          have hsz : r.b.L.length ≤ wzs L := wzs_mem (v := r) (by rw [← hXY]; simp)
          have hsz2 : s.b.L.length ≤ wzs M := wzs_mem (v := s) (by rw [← hXY']; simp)
          have h0 := HL.out
          rw [← hXY] at h0
          have h0' := HM.out
          rw [← hXY'] at h0'
          obtain ⟨g, o, rfl, hg, hc, hon⟩ := Ws.at h0
          obtain ⟨g', o', rfl, hg', hc', hon'⟩ := Ws.at h0'
          have hc2 := (hc.keep HB.out (by omega)).seven
          rw [← hXl] at hc'
          have hc2' := (hc'.keep HB.out (by omega)).seven
          have hgl : g < wr.heap.size := by omega
          have hgl' : g' < wr.heap.size := by omega
          have HXl := hideP hXl
          have HXY := hideP hXY
          have HXY' := hideP hXY'
          have HR := hideP (Row.keep hon HB.out h1)
          have HS := hideP (Row.keep hon' HB.out h2)
          have HN := hideP (fun e => ctW_not (Y := Y) (Y' := Y') HC.out (r := r) (s := s) e)
          clear h0 h0' hc hc' hXY hXY' hon hon' HL HM hXl
          obtain ⟨ri, rx, ry, rp, rh, rm, ⟨ao, cap, gb, D⟩⟩ := r
          obtain ⟨si, sx, sy, sp, sh, sm, ⟨ao', cap', gb', D'⟩⟩ := s
          simp only at hc2 hc2' hsz hsz2 HR HS HN
          obtain ⟨a0, a1, a2, a3, a4, a5, a6⟩ := hc2
          obtain ⟨b0, b1, b2, b3, b4, b5, b6⟩ := hc2'
          have hD : D.length ≤ 1048576 := by omega
          have hD' : D'.length ≤ 1048576 := by omega
          have CB := hideP (fun w1 (kk : Kept wr w1) => sameI_any lo hi lo2 hi2 ao ao' cap cap' D D' w1 (HR.out.keep (Kept.below kk) (by omega)) (HS.out.keep (Kept.below kk) (by omega)) (by have := Below.size kk; omega) (by have := Below.size kk; omega) hD hD')
          clear HR HS
          by_cases heq : (⟨ri, rx, ry, rp, rh, rm, D⟩ : Wc) = ⟨si, sx, sy, sp, sh, sm, D'⟩
          · simp only [Wc.mk.injEq] at heq
            obtain ⟨rfl, rfl, rfl, rfl, rfl, rfl, rfl⟩ := heq
            have hd : decide (D = D) = true := by simp
            rw [hd] at CB
            have hii : (ri != ri) = false := by simp
            have hmm : (rm != rm) = false := by simp
            clear hd HN
            generalize D.length = dn at *
            go_wp2_with fail
            refine wp_region_wq (by kernel_rfl) (by kernel_rfl) ?_
            repeat (first | (refine wq_up _ (by first | exact wanted_free rfl | exact wanted_yes rfl rfl | exact wanted_no rfl rfl | exact wanted_lost rfl rfl) (by first | with_reducible rfl | decide) ?_; apply Exists.intro; refine ⟨fun w1 k1 => ?_, fun K hK => ?_⟩; (focus (have hc := Kept.cell k1; go_simp; first | done | rfl | (go_at_call 46; exact kept_call k1 (CB.out _ k1)))); (go_simp; refine hK _ ?_; clear hK K)) | (refine wq_off _ (by first | exact wanted_free rfl | exact wanted_yes rfl rfl | exact wanted_no rfl rfl | exact wanted_lost rfl rfl) (by first | with_reducible rfl | decide) ?_; intro K hK; go_simp; refine hK _ ?_; clear hK K))
            refine wq_nil ?_
            intro w6 k6
            replace k6 := Kept.below k6
            have hc6 := Kept.cell k6
            have hf6 := Kept.frozen k6
            have hz6 := k6.size
            try simp only [World.size_alloc] at hz6
            try simp only [World.size_setCell] at hz6
            try simp only [World.size_drew] at hz6
            try (first | have hs6 := sz12 hz6 | have hs6 := sz11 hz6 | have hs6 := sz10 hz6 | have hs6 := sz9 hz6 | have hs6 := sz8 hz6 | have hs6 := sz7 hz6 | have hs6 := sz6 hz6 | have hs6 := sz5 hz6 | have hs6 := sz4 hz6 | have hs6 := sz3 hz6 | have hs6 := sz2 hz6 | have hs6 := sz1 hz6)
            clear a0 a1 a2 a3 a4 a5 a6 b0 b1 b2 b3 b4 b5 b6 CB
            go_wp2
            go_roundw
            case rel => exact ⟨X ++ [⟨ri, rx, ry, rp, rh, rm, ⟨ao, cap, gb, D⟩⟩], Y, X' ++ [⟨ri, rx, ry, rp, rh, rm, ⟨ao', cap', gb', D⟩⟩], Y', midW HXY.out, midW HXY'.out, by simp [HXl.out], by rw [List.map_append, List.map_append, HC.out]; simp only [List.map_cons, List.map_nil, Wn.ct], by simp, HB.out.trans (k6.mono HB.out.size)⟩
            case measure => simp [intOf]; omega
          · have HE : Hid (decide (L.map Wn.ct = M.map Wn.ct) = false) := hideP (by
              have := HN.out heq
              rw [HXY.out, HXY'.out] at this
              exact decide_eq_false this)
            have hp := wc_parts heq
            clear heq HN
            rcases hp with e | ⟨rfl, e⟩ | ⟨rfl, rfl, e⟩ | ⟨rfl, rfl, rfl, e⟩ | ⟨rfl, rfl, rfl, rfl, e⟩ | ⟨rfl, rfl, rfl, rfl, rfl, e⟩ | ⟨rfl, rfl, rfl, rfl, rfl, rfl, e⟩
            · have e' : (ri != si) = true := by simpa using e
              clear CB e
              generalize D.length = dn at *
              generalize D'.length = dn' at *
              go_wp2_with fail
              refine wp_region_wq (by kernel_rfl) (by kernel_rfl) ?_
              repeat (first | (refine wq_up _ (by first | exact wanted_free rfl | exact wanted_yes rfl rfl | exact wanted_no rfl rfl | exact wanted_lost rfl rfl) (by first | with_reducible rfl | decide) ?_; apply Exists.intro; refine ⟨fun w1 k1 => ?_, fun K hK => ?_⟩; (focus (have hc := Kept.cell k1; go_simp; first | done | rfl)); (go_simp; refine hK _ ?_; clear hK K)) | (refine wq_off _ (by first | exact wanted_free rfl | exact wanted_yes rfl rfl | exact wanted_no rfl rfl | exact wanted_lost rfl rfl) (by first | with_reducible rfl | decide) ?_; intro K hK; go_simp; refine hK _ ?_; clear hK K))
              refine wq_nil ?_
              intro w6 k6
              replace k6 := Kept.below k6
              have hc6 := Kept.cell k6
              have hf6 := Kept.frozen k6
              have hz6 := k6.size
              try simp only [World.size_alloc] at hz6
              try simp only [World.size_setCell] at hz6
              try simp only [World.size_drew] at hz6
              try (first | have hs6 := sz12 hz6 | have hs6 := sz11 hz6 | have hs6 := sz10 hz6 | have hs6 := sz9 hz6 | have hs6 := sz8 hz6 | have hs6 := sz7 hz6 | have hs6 := sz6 hz6 | have hs6 := sz5 hz6 | have hs6 := sz4 hz6 | have hs6 := sz3 hz6 | have hs6 := sz2 hz6 | have hs6 := sz1 hz6)
              clear a0 a1 a2 a3 a4 a5 a6 b0 b1 b2 b3 b4 b5 b6
              go_wp2
              go_returns
              exact ⟨by rw [HE.out]; rfl, HB.out.trans (k6.mono HB.out.size)⟩
            · have e' : ¬ rx = sx := e
              have hii : (ri != ri) = false := by simp
              clear CB e
              generalize D.length = dn at *
              generalize D'.length = dn' at *
              go_wp2_with fail
              refine wp_region_wq (by kernel_rfl) (by kernel_rfl) ?_
              repeat (first | (refine wq_up _ (by first | exact wanted_free rfl | exact wanted_yes rfl rfl | exact wanted_no rfl rfl | exact wanted_lost rfl rfl) (by first | with_reducible rfl | decide) ?_; apply Exists.intro; refine ⟨fun w1 k1 => ?_, fun K hK => ?_⟩; (focus (have hc := Kept.cell k1; go_simp; first | done | rfl)); (go_simp; refine hK _ ?_; clear hK K)) | (refine wq_off _ (by first | exact wanted_free rfl | exact wanted_yes rfl rfl | exact wanted_no rfl rfl | exact wanted_lost rfl rfl) (by first | with_reducible rfl | decide) ?_; intro K hK; go_simp; refine hK _ ?_; clear hK K))
              refine wq_nil ?_
              intro w6 k6
              replace k6 := Kept.below k6
              have hc6 := Kept.cell k6
              have hf6 := Kept.frozen k6
              have hz6 := k6.size
              try simp only [World.size_alloc] at hz6
              try simp only [World.size_setCell] at hz6
              try simp only [World.size_drew] at hz6
              try (first | have hs6 := sz12 hz6 | have hs6 := sz11 hz6 | have hs6 := sz10 hz6 | have hs6 := sz9 hz6 | have hs6 := sz8 hz6 | have hs6 := sz7 hz6 | have hs6 := sz6 hz6 | have hs6 := sz5 hz6 | have hs6 := sz4 hz6 | have hs6 := sz3 hz6 | have hs6 := sz2 hz6 | have hs6 := sz1 hz6)
              clear a0 a1 a2 a3 a4 a5 a6 b0 b1 b2 b3 b4 b5 b6
              go_wp2
              go_returns
              exact ⟨by rw [HE.out]; rfl, HB.out.trans (k6.mono HB.out.size)⟩
            · have e' : ¬ ry = sy := e
              have hii : (ri != ri) = false := by simp
              clear CB e
              generalize D.length = dn at *
              generalize D'.length = dn' at *
              go_wp2_with fail
              refine wp_region_wq (by kernel_rfl) (by kernel_rfl) ?_
              repeat (first | (refine wq_up _ (by first | exact wanted_free rfl | exact wanted_yes rfl rfl | exact wanted_no rfl rfl | exact wanted_lost rfl rfl) (by first | with_reducible rfl | decide) ?_; apply Exists.intro; refine ⟨fun w1 k1 => ?_, fun K hK => ?_⟩; (focus (have hc := Kept.cell k1; go_simp; first | done | rfl)); (go_simp; refine hK _ ?_; clear hK K)) | (refine wq_off _ (by first | exact wanted_free rfl | exact wanted_yes rfl rfl | exact wanted_no rfl rfl | exact wanted_lost rfl rfl) (by first | with_reducible rfl | decide) ?_; intro K hK; go_simp; refine hK _ ?_; clear hK K))
              refine wq_nil ?_
              intro w6 k6
              replace k6 := Kept.below k6
              have hc6 := Kept.cell k6
              have hf6 := Kept.frozen k6
              have hz6 := k6.size
              try simp only [World.size_alloc] at hz6
              try simp only [World.size_setCell] at hz6
              try simp only [World.size_drew] at hz6
              try (first | have hs6 := sz12 hz6 | have hs6 := sz11 hz6 | have hs6 := sz10 hz6 | have hs6 := sz9 hz6 | have hs6 := sz8 hz6 | have hs6 := sz7 hz6 | have hs6 := sz6 hz6 | have hs6 := sz5 hz6 | have hs6 := sz4 hz6 | have hs6 := sz3 hz6 | have hs6 := sz2 hz6 | have hs6 := sz1 hz6)
              clear a0 a1 a2 a3 a4 a5 a6 b0 b1 b2 b3 b4 b5 b6
              go_wp2
              go_returns
              exact ⟨by rw [HE.out]; rfl, HB.out.trans (k6.mono HB.out.size)⟩
            · have e' : ¬ rp = sp := e
              have hii : (ri != ri) = false := by simp
              clear CB e
              generalize D.length = dn at *
              generalize D'.length = dn' at *
              go_wp2_with fail
              refine wp_region_wq (by kernel_rfl) (by kernel_rfl) ?_
              repeat (first | (refine wq_up _ (by first | exact wanted_free rfl | exact wanted_yes rfl rfl | exact wanted_no rfl rfl | exact wanted_lost rfl rfl) (by first | with_reducible rfl | decide) ?_; apply Exists.intro; refine ⟨fun w1 k1 => ?_, fun K hK => ?_⟩; (focus (have hc := Kept.cell k1; go_simp; first | done | rfl)); (go_simp; refine hK _ ?_; clear hK K)) | (refine wq_off _ (by first | exact wanted_free rfl | exact wanted_yes rfl rfl | exact wanted_no rfl rfl | exact wanted_lost rfl rfl) (by first | with_reducible rfl | decide) ?_; intro K hK; go_simp; refine hK _ ?_; clear hK K))
              refine wq_nil ?_
              intro w6 k6
              replace k6 := Kept.below k6
              have hc6 := Kept.cell k6
              have hf6 := Kept.frozen k6
              have hz6 := k6.size
              try simp only [World.size_alloc] at hz6
              try simp only [World.size_setCell] at hz6
              try simp only [World.size_drew] at hz6
              try (first | have hs6 := sz12 hz6 | have hs6 := sz11 hz6 | have hs6 := sz10 hz6 | have hs6 := sz9 hz6 | have hs6 := sz8 hz6 | have hs6 := sz7 hz6 | have hs6 := sz6 hz6 | have hs6 := sz5 hz6 | have hs6 := sz4 hz6 | have hs6 := sz3 hz6 | have hs6 := sz2 hz6 | have hs6 := sz1 hz6)
              clear a0 a1 a2 a3 a4 a5 a6 b0 b1 b2 b3 b4 b5 b6
              go_wp2
              go_returns
              exact ⟨by rw [HE.out]; rfl, HB.out.trans (k6.mono HB.out.size)⟩
            · have e' : ¬ rh = sh := e
              have hii : (ri != ri) = false := by simp
              clear CB e
              generalize D.length = dn at *
              generalize D'.length = dn' at *
              go_wp2_with fail
              refine wp_region_wq (by kernel_rfl) (by kernel_rfl) ?_
              repeat (first | (refine wq_up _ (by first | exact wanted_free rfl | exact wanted_yes rfl rfl | exact wanted_no rfl rfl | exact wanted_lost rfl rfl) (by first | with_reducible rfl | decide) ?_; apply Exists.intro; refine ⟨fun w1 k1 => ?_, fun K hK => ?_⟩; (focus (have hc := Kept.cell k1; go_simp; first | done | rfl)); (go_simp; refine hK _ ?_; clear hK K)) | (refine wq_off _ (by first | exact wanted_free rfl | exact wanted_yes rfl rfl | exact wanted_no rfl rfl | exact wanted_lost rfl rfl) (by first | with_reducible rfl | decide) ?_; intro K hK; go_simp; refine hK _ ?_; clear hK K))
              refine wq_nil ?_
              intro w6 k6
              replace k6 := Kept.below k6
              have hc6 := Kept.cell k6
              have hf6 := Kept.frozen k6
              have hz6 := k6.size
              try simp only [World.size_alloc] at hz6
              try simp only [World.size_setCell] at hz6
              try simp only [World.size_drew] at hz6
              try (first | have hs6 := sz12 hz6 | have hs6 := sz11 hz6 | have hs6 := sz10 hz6 | have hs6 := sz9 hz6 | have hs6 := sz8 hz6 | have hs6 := sz7 hz6 | have hs6 := sz6 hz6 | have hs6 := sz5 hz6 | have hs6 := sz4 hz6 | have hs6 := sz3 hz6 | have hs6 := sz2 hz6 | have hs6 := sz1 hz6)
              clear a0 a1 a2 a3 a4 a5 a6 b0 b1 b2 b3 b4 b5 b6
              go_wp2
              go_returns
              exact ⟨by rw [HE.out]; rfl, HB.out.trans (k6.mono HB.out.size)⟩
            · have hii : (ri != ri) = false := by simp
              clear CB
              generalize D.length = dn at *
              generalize D'.length = dn' at *
              cases rm <;> cases sm
              · exact absurd rfl e
              · clear e
                go_wp2_with fail
                refine wp_region_wq (by kernel_rfl) (by kernel_rfl) ?_
                repeat (first | (refine wq_up _ (by first | exact wanted_free rfl | exact wanted_yes rfl rfl | exact wanted_no rfl rfl | exact wanted_lost rfl rfl) (by first | with_reducible rfl | decide) ?_; apply Exists.intro; refine ⟨fun w1 k1 => ?_, fun K hK => ?_⟩; (focus (have hc := Kept.cell k1; go_simp; first | done | rfl)); (go_simp; refine hK _ ?_; clear hK K)) | (refine wq_off _ (by first | exact wanted_free rfl | exact wanted_yes rfl rfl | exact wanted_no rfl rfl | exact wanted_lost rfl rfl) (by first | with_reducible rfl | decide) ?_; intro K hK; go_simp; refine hK _ ?_; clear hK K))
                refine wq_nil ?_
                intro w6 k6
                replace k6 := Kept.below k6
                have hc6 := Kept.cell k6
                have hf6 := Kept.frozen k6
                have hz6 := k6.size
                try simp only [World.size_alloc] at hz6
                try simp only [World.size_setCell] at hz6
                try simp only [World.size_drew] at hz6
                try (first | have hs6 := sz12 hz6 | have hs6 := sz11 hz6 | have hs6 := sz10 hz6 | have hs6 := sz9 hz6 | have hs6 := sz8 hz6 | have hs6 := sz7 hz6 | have hs6 := sz6 hz6 | have hs6 := sz5 hz6 | have hs6 := sz4 hz6 | have hs6 := sz3 hz6 | have hs6 := sz2 hz6 | have hs6 := sz1 hz6)
                clear a0 a1 a2 a3 a4 a5 a6 b0 b1 b2 b3 b4 b5 b6
                go_wp2
                go_returns
                exact ⟨by rw [HE.out]; rfl, HB.out.trans (k6.mono HB.out.size)⟩
              · clear e
                go_wp2_with fail
                refine wp_region_wq (by kernel_rfl) (by kernel_rfl) ?_
                repeat (first | (refine wq_up _ (by first | exact wanted_free rfl | exact wanted_yes rfl rfl | exact wanted_no rfl rfl | exact wanted_lost rfl rfl) (by first | with_reducible rfl | decide) ?_; apply Exists.intro; refine ⟨fun w1 k1 => ?_, fun K hK => ?_⟩; (focus (have hc := Kept.cell k1; go_simp; first | done | rfl)); (go_simp; refine hK _ ?_; clear hK K)) | (refine wq_off _ (by first | exact wanted_free rfl | exact wanted_yes rfl rfl | exact wanted_no rfl rfl | exact wanted_lost rfl rfl) (by first | with_reducible rfl | decide) ?_; intro K hK; go_simp; refine hK _ ?_; clear hK K))
                refine wq_nil ?_
                intro w6 k6
                replace k6 := Kept.below k6
                have hc6 := Kept.cell k6
                have hf6 := Kept.frozen k6
                have hz6 := k6.size
                try simp only [World.size_alloc] at hz6
                try simp only [World.size_setCell] at hz6
                try simp only [World.size_drew] at hz6
                try (first | have hs6 := sz12 hz6 | have hs6 := sz11 hz6 | have hs6 := sz10 hz6 | have hs6 := sz9 hz6 | have hs6 := sz8 hz6 | have hs6 := sz7 hz6 | have hs6 := sz6 hz6 | have hs6 := sz5 hz6 | have hs6 := sz4 hz6 | have hs6 := sz3 hz6 | have hs6 := sz2 hz6 | have hs6 := sz1 hz6)
                clear a0 a1 a2 a3 a4 a5 a6 b0 b1 b2 b3 b4 b5 b6
                go_wp2
                go_returns
                exact ⟨by rw [HE.out]; rfl, HB.out.trans (k6.mono HB.out.size)⟩
              · exact absurd rfl e
            · have hd : decide (D = D') = false := decide_eq_false e
              rw [hd] at CB
              have hii : (ri != ri) = false := by simp
              have hmm : (rm != rm) = false := by simp
              clear hd e
              generalize D.length = dn at *
              generalize D'.length = dn' at *
              go_wp2_with fail
              refine wp_region_wq (by kernel_rfl) (by kernel_rfl) ?_
              repeat (first | (refine wq_up _ (by first | exact wanted_free rfl | exact wanted_yes rfl rfl | exact wanted_no rfl rfl | exact wanted_lost rfl rfl) (by first | with_reducible rfl | decide) ?_; apply Exists.intro; refine ⟨fun w1 k1 => ?_, fun K hK => ?_⟩; (focus (have hc := Kept.cell k1; go_simp; first | done | rfl | (go_at_call 46; exact kept_call k1 (CB.out _ k1)))); (go_simp; refine hK _ ?_; clear hK K)) | (refine wq_off _ (by first | exact wanted_free rfl | exact wanted_yes rfl rfl | exact wanted_no rfl rfl | exact wanted_lost rfl rfl) (by first | with_reducible rfl | decide) ?_; intro K hK; go_simp; refine hK _ ?_; clear hK K))
              refine wq_nil ?_
              intro w6 k6
              replace k6 := Kept.below k6
              have hc6 := Kept.cell k6
              have hf6 := Kept.frozen k6
              have hz6 := k6.size
              try simp only [World.size_alloc] at hz6
              try simp only [World.size_setCell] at hz6
              try simp only [World.size_drew] at hz6
              try (first | have hs6 := sz12 hz6 | have hs6 := sz11 hz6 | have hs6 := sz10 hz6 | have hs6 := sz9 hz6 | have hs6 := sz8 hz6 | have hs6 := sz7 hz6 | have hs6 := sz6 hz6 | have hs6 := sz5 hz6 | have hs6 := sz4 hz6 | have hs6 := sz3 hz6 | have hs6 := sz2 hz6 | have hs6 := sz1 hz6)
              clear a0 a1 a2 a3 a4 a5 a6 b0 b1 b2 b3 b4 b5 b6 CB
              go_wp2
              go_returns
              exact ⟨by rw [HE.out]; rfl, HB.out.trans (k6.mono HB.out.size)⟩
      | nil =>
        have hX : X = L := by simpa using hXY
        have hY' : Y' = [] := List.length_eq_zero_iff.1 (by have := HLen.out; simp at hlen; omega)
        subst hY'
        have hX' : X' = M := by simpa using hXY'
        have HE : Hid (decide (L.map Wn.ct = M.map Wn.ct) = true) := hideP (by rw [← hX, ← hX']; exact decide_eq_true HC.out)
        have e1 : X.length = L.length := by rw [hX]
        clear hX hX' hXY hXY' hXl HC HL HM
        rw [e1]
        go_wp2
        go_returns
        exact ⟨by rw [HE.out]; rfl, HB.out⟩
  · have hne : ((L.length : Int) != (M.length : Int)) = true := by simp; omega
    have HE : Hid (decide (L.map Wn.ct = M.map Wn.ct) = false) := hideP (decide_eq_false (ctW_len_not hlen))
    clear hlen HL HM
    go_enter Try.func24, Try.ntmps24
    go_wp2
    go_returns
    exact ⟨by rw [HE.out]; rfl, Below.refl _ _⟩
end Go.Proofs.Ytfklmpfjllonpab
