/- Faults of windows and of stacks: the model's side. A window asked for by its id: the model's, and the program's. A window asked for by its id, pointed at by the program. Windows held against each other by the laws' own functions. -/
import Derived.Test.YtmmjannkfmiohaaTs14
import Derived.Test.YtmmjannkfmiohaaTs11
import Derived.Test.YtmmjannkfmiohaaTs9
namespace Go.Proofs.Ytmmjannkfmiohaa
open Go.RowKit Go.Maps
set_option linter.unusedVariables false

set_option maxRecDepth 100000 in
set_option maxHeartbeats 1000000 in
theorem l7Ids_any (lo hi : Nat) (so : Option Addr) (sc : Nat) (L : List Wn) (w : World) (hL : Ws w lo hi so L) (hs : hi ≤ w.heap.size) (hn : L.length ≤ 1048576) :
    Calls Try.prog 55 #[.slice so L.length sc] w fun e w' => ∃ ao cap, e = .returned (.slice ao (L.map Wn.i).length cap) ∧ OwnR .i64 2 w' w.heap.size ao cap (L.map Wn.i) ∧ Below w.heap.size w w' := by
  have hn' : (L.length : Int) ≤ 1048576 := by omega
  have HL := hideP hL
  clear hL
  go_enter Try.func55, Try.ntmps55
  go_wp2
  go_loopw [3, 4] (fun v i wr => ∃ X Y : List Wn, X ++ Y = L ∧ i = .int .i64 (X.length : Nat) ∧ Below w.heap.size w wr ∧ ∃ ao cap, v = .slice ao (X.map Wn.i).length cap ∧ OwnR .i64 2 wr w.heap.size ao cap (X.map Wn.i)) (fun _ i _ => L.length - (intOf i).toNat)
  case atStart => exact ⟨[], L, rfl, rfl, by go_grown, some ⟨w.heap.size, 0, none⟩, 0, rfl, by simpa using OwnR.lit .i64 2 w w.heap.size [] _ rfl (Nat.le_refl _) (by unfold maxLen; simp)⟩
  case round =>
    obtain ⟨X, Y, hXY, rfl, kb, ao, cap, rfl, O⟩ := hrel
    have hlen : X.length + Y.length = L.length := by rw [← hXY]; simp
    have hz := kb.size
    have HO := hideP O
    clear O
    cases Y with
    | cons r Y =>
      have hlt : (X.length : Int) < (L.length : Int) := by simp at hlen; omega
      have h0 := HL.out
      rw [← hXY] at h0
      obtain ⟨g, o, rfl, hg, hc, _⟩ := Ws.at h0
      obtain ⟨a0, a1, a2, a3, a4, a5, a6⟩ := (hc.keep kb (by omega)).seven
      have hgl : g < wr.heap.size := by omega
      have HB := hideP kb
      have HXY := hideP hXY
      have hXn : (X.map Wn.i).length ≤ 1048576 := by simp; omega
      have HXI : Hid ((X ++ [r]).map Wn.i = X.map Wn.i ++ [r.i]) := hideP (by simp)
      clear h0 hc kb hXY hlen HL a1 a2 a3 a4 a5 a6
      generalize X.map Wn.i = XI at *
      go_wp2_with (first | (at_builtin; refine wpList_app (k := .i64) (T := 2) (S := 26) (bytes := 8) Try.underlying26 Try.infoI5 (by omega) rfl _ _ rfl w.heap.size ao cap XI rfl (HO.out.alloc _) _ 1 [r.i] rfl (src_one .i64 wr r.i 2) (by simp; omega) (by simp; omega) ?_; intro ao8 ca8 w8 O8 K8) | go_in)
      go_roundw
      case rel =>
        refine ⟨X ++ [r], Y, midW HXY.out, by simp, ?_, ao8, ca8, by rw [HXI.out]; simp, by rw [HXI.out]; exact O8⟩
        exact HB.out.trans (Below.trans (by go_grown : Below w.heap.size wr _) K8)
      case measure => simp [intOf]; omega
    | nil =>
      have hX : X = L := by simpa using hXY
      subst hX
      have HB := hideP kb
      clear kb hXY HL
      go_wp2
      go_returns
      exact ⟨ao, cap, rfl, HO.out, HB.out⟩

set_option maxHeartbeats 800000 in
theorem l7Rect_any (b o : Nat) (x y p h : Int) (w : World) (R : IsRect w b o x y p h) :
    Calls Try.prog 56 #[.pointer (some ⟨b, o, none⟩)] w fun e w' => e = .returned (.int .i64 (rfOf (wrB x y p h))) ∧ w' = w := by
  have RF := hideP (l2F_any b o x y p h w R)
  obtain ⟨c0, c1, c2, c3⟩ := R
  have hb : b < w.heap.size := World.block_lt_of_cell? w _ c0
  cases hr : rfB x y p h
  · rw [hr] at RF
    by_cases h1 : 8 < p
    · have e : wrB x y p h = true := by unfold wrB; simp; omega
      rw [e]
      clear e hr
      go_enter Try.func56, Try.ntmps56
      go_wp2_with fail
      refine Calls.mono RF.out ?_
      rintro e w1 ⟨rfl, rfl⟩
      unfold rfOf
      go_wp2
      go_returns
      exact ⟨rfl, rfl⟩
    · by_cases h2 : 6 < h
      · have e : wrB x y p h = true := by unfold wrB; simp; omega
        rw [e]
        clear e hr
        go_enter Try.func56, Try.ntmps56
        go_wp2_with fail
        refine Calls.mono RF.out ?_
        rintro e w1 ⟨rfl, rfl⟩
        unfold rfOf
        go_wp2
        go_returns
        exact ⟨rfl, rfl⟩
      · have e : wrB x y p h = false := by unfold wrB; rw [hr]; simp; omega
        rw [e]
        clear e hr
        go_enter Try.func56, Try.ntmps56
        go_wp2_with fail
        refine Calls.mono RF.out ?_
        rintro e w1 ⟨rfl, rfl⟩
        unfold rfOf
        go_wp2
        go_returns
        exact ⟨rfl, rfl⟩
  · rw [hr] at RF
    have e : wrB x y p h = true := by unfold wrB; rw [hr]; rfl
    rw [e]
    clear e hr
    go_enter Try.func56, Try.ntmps56
    go_wp2_with fail
    refine Calls.mono RF.out ?_
    rintro e w1 ⟨rfl, rfl⟩
    unfold rfOf
    go_wp2
    go_returns
    exact ⟨rfl, rfl⟩

set_option maxHeartbeats 1000000 in
theorem l1All_any (lo hi : Nat) (ao : Option Addr) (ca : Nat) (D : List Int) (w : World) (hR : Row .i64 w lo hi ao D) (hs : hi ≤ w.heap.size) (hl : D.length ≤ 1048576) :
    Calls Try.prog 37 #[.slice ao D.length ca, .int .i64 0, .int .i64 255] w fun e w' => e = .returned (.bool (D.all byB)) ∧ w' = w := by
  have hl' : (D.length : Int) ≤ 1048576 := by omega
  have HR := hideP hR
  clear hR
  go_enter Try.func37, Try.ntmps37
  go_wp2
  go_loop [7] (fun i => ∃ j : Nat, j ≤ D.length ∧ i = .int .i64 j ∧ (D.take j).all byB = true) (fun i => D.length - (intOf i).toNat)
  case atStart => exact ⟨0, Nat.zero_le _, rfl, rfl⟩
  case round =>
    obtain ⟨j, hj, rfl, hall⟩ := hrel
    by_cases hlt : j < D.length
    · have hlt' : (j : Int) < (D.length : Int) := by omega
      have hne' : D ≠ [] := fun e => by rw [e] at hlt; simp at hlt
      rcases HR.out with e | ⟨g, o, rfl, _, hg, hc⟩
      · exact absurd e hne'
      have a0 := hc j hlt
      have hgl : g < w.heap.size := by omega
      have HBad := hideP (all_badW hlt)
      have HOn := hideP (all_snocW hlt hall)
      clear hc hall HR hne'
      generalize D[j] = z at *
      cases hz : byB z
      · have hF := hideP (HBad.out hz)
        have hn := byB_no hz
        clear HBad HOn
        go_wp2_with (go_at_call 53; refine Calls.mono (in_no _ _ _ _ hn) ?_; rintro e w1 ⟨rfl, rfl⟩)
        go_returns
        exact ⟨by rw [hF.out]; rfl, rfl⟩
      · have hO := hideP (HOn.out hz)
        obtain ⟨hn1, hn2⟩ := byB_yes hz
        clear HBad HOn
        go_wp2_with (go_at_call 53; refine Calls.mono (in_yes _ _ _ _ hn1 hn2) ?_; rintro e w1 ⟨rfl, rfl⟩)
        go_round
        case rel => exact ⟨j + 1, by omega, by go_num, hO.out⟩
        case measure => simp [intOf]; omega
    · obtain rfl : j = D.length := by omega
      rw [List.take_length] at hall
      have hF := hideP hall
      clear hall
      go_wp2
      go_returns
      exact ⟨by rw [hF.out]; rfl, rfl⟩

set_option maxRecDepth 100000 in
set_option maxHeartbeats 2000000 in
theorem l7F_two (lo hi : Nat) (so : Option Addr) (sc : Nat) (L : List Wn) (w : World) (hL : Ws w lo hi so L) (hs : hi ≤ w.heap.size) (hn : L.length ≤ 1048576) (hzz : wzs L ≤ 1048576) :
    Calls Try.prog 36 #[.slice so L.length sc] w fun e w' => e = .returned (.int .i64 (stF (L.map Wn.ct))) ∧ Below w.heap.size w w' := by
  have hn' : (L.length : Int) ≤ 1048576 := by omega
  have HL := hideP hL
  have HI : Hid ((L.map Wn.ct).map Wc.i = L.map Wn.i) := hideP (by simp [Wn.ct])
  have hLI : (L.map Wn.i).length ≤ 1048576 := by simp; omega
  have ID := l7Ids_any lo hi so sc L w hL hs (by omega)
  obtain ⟨I, hI⟩ : ∃ I, L.map Wn.i = I := ⟨_, rfl⟩
  rw [hI] at HI hLI ID
  have ID' := hideP ID
  clear hL hI ID
  go_enter Try.func36, Try.ntmps36
  go_wp2_with fail
  refine Calls.mono ID'.out ?_
  rintro e w1 ⟨ao, cap, rfl, O1, k1⟩
  have K1 := hideP k1
  have n1 := k1.size
  go_wp2_with fail
  refine Calls.mono (sFault5_any w.heap.size w1.heap.size ao cap I w1 (OwnR.wrt O1).row (Nat.le_refl _) hLI (OwnR.capV O1)) ?_
  rintro e w2 ⟨rfl, k2⟩
  have K2 := hideP (K1.out.trans (k2.mono n1))
  have n2 := k2.size
  clear k1 k2 O1 K1 hLI ID'
  by_cases hid : idsF I = 0
  · have HS := hideP (stF_ws (C := L.map Wn.ct) (by rw [HI.out]; exact hid))
    rw [hid]
    clear hid
    go_wp2
    go_loopw [4] (fun i wr => ∃ X Y : List Wn, X ++ Y = L ∧ i = .int .i64 (X.length : Nat) ∧ wsF (X.map Wn.ct) = 0 ∧ Below w.heap.size w wr) (fun i _ => L.length - (intOf i).toNat)
    case atStart => exact ⟨[], L, rfl, rfl, rfl, K2.out⟩
    case round =>
      obtain ⟨X, Y, hXY, rfl, hF, kb⟩ := hrel
      have hlen : X.length + Y.length = L.length := by rw [← hXY]; simp
      have hz := kb.size
      have HF := hideP hF
      have HB := hideP kb
      clear hF kb K2
      cases Y with
      | cons r Y =>
        have hlt : (X.length : Int) < (L.length : Int) := by simp at hlen; omega
        have hsz : r.b.L.length ≤ wzs L := wzs_mem (v := r) (by rw [← hXY]; simp)
        have h0 := HL.out
        rw [← hXY] at h0
        obtain ⟨g, o, rfl, hg, hc, hon⟩ := Ws.at h0
        have hc' := (hc.keep HB.out (by omega)).seven
        have hgl : g < wr.heap.size := by omega
        have HXY := hideP hXY
        have HR := hideP (Row.keep hon HB.out hs)
        clear h0 hc hXY HL hon
        obtain ⟨ri, rx, ry, rp, rh, rm, ⟨bo, cb, gb, D⟩⟩ := r
        simp only at hc' hsz HR
        obtain ⟨a0, a1, a2, a3, a4, a5, a6⟩ := hc'
        have RC := hideP (l7Rect_any g (o + X.length * 7 + 1) rx ry rp rh wr ⟨a1, a2, a3, a4⟩)
        have hstep : Hid (∀ c, winF ⟨ri, rx, ry, rp, rh, rm, D⟩ = c → c ≠ 0 → stF (L.map Wn.ct) = c) := hideP (fun c e hc => by
          rw [HS.out, ← HXY.out, List.map_append, List.map_cons]
          exact (wsF_bad HF.out (by show winF ⟨ri, rx, ry, rp, rh, rm, D⟩ ≠ 0; rw [e]; exact hc)).trans e)
        have hon' : Hid (winF ⟨ri, rx, ry, rp, rh, rm, D⟩ = 0 → wsF ((X ++ [(⟨ri, rx, ry, rp, rh, rm, ⟨bo, cb, gb, D⟩⟩ : Wn)]).map Wn.ct) = 0) := hideP (fun e => by rw [List.map_append]; exact wsF_snoc HF.out e)
        have WR := winF_rect (c := ⟨ri, rx, ry, rp, rh, rm, D⟩)
        have WM := winF_many (c := ⟨ri, rx, ry, rp, rh, rm, D⟩)
        have WB := winF_byte (c := ⟨ri, rx, ry, rp, rh, rm, D⟩)
        have WO := winF_ok (c := ⟨ri, rx, ry, rp, rh, rm, D⟩)
        simp only at WR WM WB WO
        cases hw : wrB rx ry rp rh
        · have hwb := wrB_no hw
          obtain ⟨q0, q1⟩ := area_le hwb.2.2.1 hwb.2.2.2.1
          obtain ⟨q, hq⟩ : ∃ q, rp * rh = q := ⟨_, rfl⟩
          have hwq : IntKind.i64.wrap (rp * rh) = q := by rw [hq]; exact IntWalk.i64_in _ (by omega)
          rw [hq] at q0 q1 WM WB WO
          have LA := hideP (fun w1 (kk : Kept wr w1) => l1All_any lo hi bo cb D w1 (HR.out.keep kk (by omega)) (by have := Below.size kk; omega) (by omega))
          rw [hw] at RC
          by_cases hm : (D.length : Int) = q
          · have hne : ((D.length : Int) != q) = false := by simpa using hm
            cases hall : D.all byB
            · have hE := hideP (hstep.out 3 (WB hw hm hall) (by omega))
              rw [hall] at LA
              clear WR WM WB WO hwb hq hm hw hall hon' hstep
              go_wp2_with fail
              refine Calls.mono RC.out ?_
              rintro e w3 ⟨rfl, rfl⟩
              unfold rfOf
              go_wp2
              refine wp_region_kept (by kernel_rfl) (by kernel_rfl) ?_
              repeat (refine kept_step (by rfl) ?_; apply Exists.intro; refine ⟨fun w1 k1 => ?_, fun K hK => ?_⟩; (focus (have hc := Kept.cell k1; go_simp; first | done | rfl)); (go_simp; refine hK _ ?_; clear hK K))
              refine wpQuiet_nil ?_
              intro w5 k5
              replace k5 := Kept.below k5
              have hc5 := Kept.cell k5
              have hf5 := Kept.frozen k5
              have hz5 := k5.size
              try simp only [World.size_alloc] at hz5
              try simp only [World.size_setCell] at hz5
              try simp only [World.size_drew] at hz5
              try (first | have hs5 := sz12 hz5 | have hs5 := sz11 hz5 | have hs5 := sz10 hz5 | have hs5 := sz9 hz5 | have hs5 := sz8 hz5 | have hs5 := sz7 hz5 | have hs5 := sz6 hz5 | have hs5 := sz5 hz5 | have hs5 := sz4 hz5 | have hs5 := sz3 hz5 | have hs5 := sz2 hz5 | have hs5 := sz1 hz5)
              go_wp2_with fail
              refine Calls.mono (LA.out _ k5) ?_
              rintro e w4 ⟨rfl, rfl⟩
              go_wp2
              go_returns
              exact ⟨by rw [hE.out]; rfl, HB.out.trans (k5.mono hz)⟩
            · have hE := hideP (hon'.out (WO hw hm hall))
              rw [hall] at LA
              clear WR WM WB WO hwb hq hm hw hall hon' hstep
              go_wp2_with fail
              refine Calls.mono RC.out ?_
              rintro e w3 ⟨rfl, rfl⟩
              unfold rfOf
              go_wp2
              refine wp_region_kept (by kernel_rfl) (by kernel_rfl) ?_
              repeat (refine kept_step (by rfl) ?_; apply Exists.intro; refine ⟨fun w1 k1 => ?_, fun K hK => ?_⟩; (focus (have hc := Kept.cell k1; go_simp; first | done | rfl)); (go_simp; refine hK _ ?_; clear hK K))
              refine wpQuiet_nil ?_
              intro w5 k5
              replace k5 := Kept.below k5
              have hc5 := Kept.cell k5
              have hf5 := Kept.frozen k5
              have hz5 := k5.size
              try simp only [World.size_alloc] at hz5
              try simp only [World.size_setCell] at hz5
              try simp only [World.size_drew] at hz5
              try (first | have hs5 := sz12 hz5 | have hs5 := sz11 hz5 | have hs5 := sz10 hz5 | have hs5 := sz9 hz5 | have hs5 := sz8 hz5 | have hs5 := sz7 hz5 | have hs5 := sz6 hz5 | have hs5 := sz5 hz5 | have hs5 := sz4 hz5 | have hs5 := sz3 hz5 | have hs5 := sz2 hz5 | have hs5 := sz1 hz5)
              go_wp2_with fail
              refine Calls.mono (LA.out _ k5) ?_
              rintro e w4 ⟨rfl, rfl⟩
              go_wp2
              go_roundw
              case rel => exact ⟨X ++ [⟨ri, rx, ry, rp, rh, rm, ⟨bo, cb, gb, D⟩⟩], Y, midW HXY.out, by simp, hE.out, HB.out.trans (k5.mono hz)⟩
              case measure => simp [intOf]; omega
          · have hne : ((D.length : Int) != q) = true := by simpa using hm
            have hE := hideP (hstep.out 2 (WM hw hm) (by omega))
            clear WR WM WB WO hwb hq hm hw hon' hstep
            go_wp2_with fail
            refine Calls.mono RC.out ?_
            rintro e w3 ⟨rfl, rfl⟩
            unfold rfOf
            go_wp2
            refine wp_region_kept (by kernel_rfl) (by kernel_rfl) ?_
            repeat (refine kept_step (by rfl) ?_; apply Exists.intro; refine ⟨fun w1 k1 => ?_, fun K hK => ?_⟩; (focus (have hc := Kept.cell k1; go_simp; first | done | rfl)); (go_simp; refine hK _ ?_; clear hK K))
            refine wpQuiet_nil ?_
            intro w5 k5
            replace k5 := Kept.below k5
            have hc5 := Kept.cell k5
            have hf5 := Kept.frozen k5
            have hz5 := k5.size
            try simp only [World.size_alloc] at hz5
            try simp only [World.size_setCell] at hz5
            try simp only [World.size_drew] at hz5
            try (first | have hs5 := sz12 hz5 | have hs5 := sz11 hz5 | have hs5 := sz10 hz5 | have hs5 := sz9 hz5 | have hs5 := sz8 hz5 | have hs5 := sz7 hz5 | have hs5 := sz6 hz5 | have hs5 := sz5 hz5 | have hs5 := sz4 hz5 | have hs5 := sz3 hz5 | have hs5 := sz2 hz5 | have hs5 := sz1 hz5)
            go_wp2
            go_returns
            exact ⟨by rw [hE.out]; rfl, HB.out.trans (k5.mono hz)⟩
        · have hE := hideP (hstep.out 3 (WR hw) (by omega))
          rw [hw] at RC
          clear WR WM WB WO hw hon' hstep
          go_wp2_with fail
          refine Calls.mono RC.out ?_
          rintro e w3 ⟨rfl, rfl⟩
          unfold rfOf
          go_wp2
          go_returns
          exact ⟨by rw [hE.out]; rfl, HB.out⟩
      | nil =>
        have hX : X = L := by simpa using hXY
        subst hX
        have HE : Hid (stF (X.map Wn.ct) = 0) := hideP (HS.out.trans HF.out)
        clear hXY HL HF HS
        go_wp2
        go_returns
        exact ⟨by rw [HE.out]; rfl, HB.out⟩
  · have HS := hideP (stF_ids (C := L.map Wn.ct) (by rw [HI.out]; exact hid))
    rw [HI.out] at HS
    obtain ⟨c, hcc⟩ : ∃ c, idsF I = c := ⟨_, rfl⟩
    have hcn : (c != 0) = true := by rw [← hcc]; simpa using hid
    rw [hcc] at HS ⊢
    clear hid hcc
    go_wp2
    go_returns
    exact ⟨by rw [HS.out]; rfl, K2.out⟩
theorem l7F_any (lo hi : Nat) (so : Option Addr) (sc : Nat) (L : List Wn) (w : World) (hL : Ws w lo hi so L) (hs : hi ≤ w.heap.size) (hn : L.length + wzs L ≤ 1048576) :
    Calls Try.prog 36 #[.slice so L.length sc] w fun e w' => e = .returned (.int .i64 (stF (L.map Wn.ct))) ∧ Below w.heap.size w w' := l7F_two lo hi so sc L w hL hs (by omega) (by omega)

end Go.Proofs.Ytmmjannkfmiohaa

namespace Go.Proofs.Ytmmjannkfmiohaa
open Go.RowKit Go.Maps
set_option linter.unusedVariables false

/-- The first window of an id stands behind X and ahead of Y. -/
structure Fst (id : Int) (L X : List Wn) (r : Wn) (Y : List Wn) : Prop where
  eq : L = X ++ r :: Y
  at' : r.i = id
  no : ∀ v ∈ X, v.i ≠ id
theorem fst_or (id : Int) (L : List Wn) : (∀ v ∈ L, v.i ≠ id) ∨ ∃ X r Y, Fst id L X r Y := by
  induction L with
  | nil => exact .inl fun v h => by simp at h
  | cons v L ih =>
    by_cases e : v.i = id
    · exact .inr ⟨[], v, L, rfl, e, fun v h => by simp at h⟩
    · rcases ih with ih | ⟨X, r, Y, h⟩
      · refine .inl fun u hu => ?_
        rcases List.mem_cons.1 hu with rfl | hu
        · exact e
        · exact ih u hu
      · refine .inr ⟨v :: X, r, Y, by rw [h.eq]; rfl, h.at', fun u hu => ?_⟩
        rcases List.mem_cons.1 hu with rfl | hu
        · exact e
        · exact h.no u hu
/-- The code of asking for a window. -/
def askW (C : List Wc) (id : Int) : Int := if stF C = 0 then (if (C.map Wc.i).contains id then 0 else 4) else stF C
theorem askW_bad {C : List Wc} {id : Int} (h : ¬ stF C = 0) : askW C id = stF C := by unfold askW; rw [if_neg h]
theorem mapI (L : List Wn) : (L.map Wn.ct).map Wc.i = L.map Wn.i := by simp [Wn.ct]
theorem askW_none {L : List Wn} {id : Int} (h : stF (L.map Wn.ct) = 0) (hn : ∀ v ∈ L, v.i ≠ id) : askW (L.map Wn.ct) id = 4 := by
  unfold askW
  rw [if_pos h, if_neg]
  rw [mapI]
  simp only [List.contains_eq_mem, List.mem_map, decide_eq_true_eq]
  rintro ⟨v, hv, e⟩
  exact hn v hv e
theorem askW_yes {L X Y : List Wn} {r : Wn} {id : Int} (h : stF (L.map Wn.ct) = 0) (hf : Fst id L X r Y) : askW (L.map Wn.ct) id = 0 := by
  unfold askW
  rw [if_pos h, if_pos]
  rw [mapI, hf.eq]
  simp [hf.at']

end Go.Proofs.Ytmmjannkfmiohaa

namespace Go.Proofs.Ytmmjannkfmiohaa
open Go.RowKit Go.Maps
set_option linter.unusedVariables false

theorem fst_ct {id : Int} {L M X Y : List Wn} {r : Wn} (h : Fst id L X r Y) (e : M.map Wn.ct = L.map Wn.ct) : ∃ X' r' Y', Fst id M X' r' Y' ∧ X'.map Wn.ct = X.map Wn.ct ∧ r'.ct = r.ct ∧ Y'.map Wn.ct = Y.map Wn.ct := by
  rw [h.eq, List.map_append, List.map_cons] at e
  obtain ⟨X', T, rfl, h1, h2⟩ := List.map_eq_append_iff.1 e
  obtain ⟨r', Y', rfl, h3, h4⟩ := List.map_eq_cons_iff.1 h2
  refine ⟨X', r', Y', ⟨rfl, ?_, fun v hv => ?_⟩, h1, h3, h4⟩
  · have := congrArg Wc.i h3; rw [← h.at']; exact this
  · have hm : v.ct ∈ X.map Wn.ct := by rw [← h1]; exact List.mem_map_of_mem hv
    obtain ⟨u, hu, hue⟩ := List.mem_map.1 hm
    have := h.no u hu
    have e1 : u.i = v.i := congrArg Wc.i hue
    rw [← e1]
    exact this

end Go.Proofs.Ytmmjannkfmiohaa

namespace Go.Proofs.Ytmmjannkfmiohaa
open Go.RowKit
set_option linter.unusedVariables false

theorem ctW_at {X Y : List Wn} {r : Wn} {M : List Wn} (h : M.map Wn.ct = (X ++ r :: Y).map Wn.ct) : ∃ Z W s, M = Z ++ s :: W ∧ Z.length = X.length ∧ s.i = r.i ∧ s.x = r.x ∧ s.y = r.y ∧ s.w = r.w ∧ s.h = r.h ∧ s.m = r.m ∧ s.b.L = r.b.L := by
  have hl : M.length = X.length + Y.length + 1 := by have := congrArg List.length h; simp at this; omega
  have hlt : X.length < M.length := by omega
  have e : M = M.take X.length ++ M[X.length] :: M.drop (X.length + 1) := by simp
  have h2 : (M[X.length]).ct = r.ct := by
    have : (M.map Wn.ct)[X.length]'(by simpa using hlt) = ((X ++ r :: Y).map Wn.ct)[X.length]'(by simp) := by simp only [h]
    simpa using this
  simp only [Wn.ct, Wc.mk.injEq] at h2
  exact ⟨_, _, _, e, by simp; omega, h2⟩

/-- Three cells in a box. -/
structure R3 (w : World) (b : Nat) (v0 v1 v2 : Value) : Prop where
  c0 : w.cell? ⟨b, 0, none⟩ = some v0
  c1 : w.cell? ⟨b, 1, none⟩ = some v1
  c2 : w.cell? ⟨b, 2, none⟩ = some v2
  fr : ∀ c, w.frozen? ⟨b, c, none⟩ = false
  lt : b < w.heap.size
theorem R3.keep {w w' : World} {b B : Nat} {v0 v1 v2 : Value} (h : R3 w b v0 v1 v2) (k : Below B w w') (hb : b < B) : R3 w' b v0 v1 v2 :=
  ⟨(k.cell (p := ⟨b, 0, none⟩) hb).trans h.c0, (k.cell (p := ⟨b, 1, none⟩) hb).trans h.c1, (k.cell (p := ⟨b, 2, none⟩) hb).trans h.c2, fun c => (k.frozen (p := ⟨b, c, none⟩) hb).trans (h.fr c), Nat.lt_of_lt_of_le h.lt k.size⟩
theorem R3.far {w w' : World} {b lo hi : Nat} {v0 v1 v2 : Value} (h : R3 w b v0 v1 v2) (f : Far lo hi w w') (hd : b < lo ∨ hi ≤ b) : R3 w' b v0 v1 v2 :=
  ⟨(f.cell b 0 h.lt hd).trans h.c0, (f.cell b 1 h.lt hd).trans h.c1, (f.cell b 2 h.lt hd).trans h.c2, fun c => (f.frozen b c h.lt hd).trans (h.fr c), Nat.lt_of_lt_of_le h.lt f.size⟩
theorem r3_new (w : World) (v0 v1 v2 : Value) (T : TypeId) : R3 (w.alloc (.cells #[v0, v1, v2] T)) w.heap.size v0 v1 v2 := ⟨by simp, by simp, by simp, by simp, by simp⟩

end Go.Proofs.Ytmmjannkfmiohaa
