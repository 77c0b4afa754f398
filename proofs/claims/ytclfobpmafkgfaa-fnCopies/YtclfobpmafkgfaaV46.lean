/- A window copied over itself: the cells one by one, by the specification and by the program. -/
import Derived.Test.YtclfobpmafkgfaaV45
import Derived.Test.YtclfobpmafkgfaaV15
import Derived.Test.YtclfobpmafkgfaaV17
namespace Go.Proofs.Ytclfobpmafkgfaa
open Go.RowKit Go.Maps
set_option linter.unusedVariables false

/-- Points that something is copied to (of those that the window has). -/
def cB (p h rx ry rp rh tx ty a b : Int) : Bool := decide ((0 ≤ a - tx ∧ a - tx < rp) ∧ 0 ≤ b - ty ∧ b - ty < rh) && ownB p h (a - tx + rx) (b - ty + ry)
def kB (p h rx ry rp rh tx ty u v a b : Int) : Bool := cB p h rx ry rp rh tx ty a b && ahB u v (a - tx) (b - ty)
def cF (p rx ry tx ty : Int) (D : List Int) (a b : Int) : Int := D.getD ((b - ty + ry) * p + (a - tx + rx)).toNat 0
def cpL (p h rx ry rp rh tx ty : Int) (D : List Int) (u v : Int) : List Int := pntL p (kB p h rx ry rp rh tx ty u v) (cF p rx ry tx ty D) D
def copyL (p h rx ry rp rh tx ty : Int) (D : List Int) : List Int := pntL p (cB p h rx ry rp rh tx ty) (cF p rx ry tx ty D) D
section
variable {p h rx ry rp rh tx ty u v a b : Int} {D : List Int}
theorem cB_yes (e : cB p h rx ry rp rh tx ty a b = true) : (0 ≤ a - tx ∧ a - tx < rp ∧ 0 ≤ b - ty ∧ b - ty < rh) ∧ ownB p h (a - tx + rx) (b - ty + ry) = true := by
  unfold cB at e
  rw [Bool.and_eq_true, decide_eq_true_eq] at e
  exact ⟨⟨e.1.1.1, e.1.1.2, e.1.2.1, e.1.2.2⟩, e.2⟩
theorem cB_of (e : 0 ≤ a - tx ∧ a - tx < rp ∧ 0 ≤ b - ty ∧ b - ty < rh) (e2 : ownB p h (a - tx + rx) (b - ty + ry) = true) : cB p h rx ry rp rh tx ty a b = true := by
  unfold cB
  rw [e2, decide_eq_true ⟨⟨e.1, e.2.1⟩, e.2.2⟩]; rfl
theorem kB_iff : kB p h rx ry rp rh tx ty u v a b = true ↔ cB p h rx ry rp rh tx ty a b = true ∧ (b - ty < v ∨ (b - ty = v ∧ a - tx < u)) := by
  unfold kB ahB
  rw [Bool.and_eq_true, decide_eq_true_eq]
theorem kB_congr {u' v' : Int} (e : cB p h rx ry rp rh tx ty a b = true → ((b - ty < v ∨ (b - ty = v ∧ a - tx < u)) ↔ (b - ty < v' ∨ (b - ty = v' ∧ a - tx < u')))) : kB p h rx ry rp rh tx ty u v a b = kB p h rx ry rp rh tx ty u' v' a b := by
  rw [Bool.eq_iff_iff, kB_iff, kB_iff]
  constructor
  · rintro ⟨h1, h2⟩; exact ⟨h1, (e h1).1 h2⟩
  · rintro ⟨h1, h2⟩; exact ⟨h1, (e h1).2 h2⟩
theorem cpL_len : (cpL p h rx ry rp rh tx ty D u v).length = D.length := pntL_len
theorem copyL_len : (copyL p h rx ry rp rh tx ty D).length = D.length := pntL_len
theorem cpL_start : cpL p h rx ry rp rh tx ty D 0 0 = D := pntL_none fun a b => by
  rw [Bool.eq_false_iff, ne_eq, kB_iff]
  rintro ⟨h1, h2⟩
  have := (cB_yes h1).1
  omega
theorem cpL_row : cpL p h rx ry rp rh tx ty D rp v = cpL p h rx ry rp rh tx ty D 0 (v + 1) := by
  unfold cpL
  congr 1
  funext a b
  exact kB_congr fun h1 => by have := (cB_yes h1).1; omega
theorem cpL_end : cpL p h rx ry rp rh tx ty D 0 rh = copyL p h rx ry rp rh tx ty D := by
  unfold cpL copyL
  congr 1
  funext a b
  rw [Bool.eq_iff_iff, kB_iff]
  constructor
  · exact fun h => h.1
  · intro h1; have := (cB_yes h1).1; exact ⟨h1, by omega⟩
theorem cpL_skip (hp : 0 < p) (hC : (D.length : Int) ≤ h * p) (hi : ownB p h (rx + u) (ry + v) = false ∨ ownB p h (tx + u) (ty + v) = false) : cpL p h rx ry rp rh tx ty D u v = cpL p h rx ry rp rh tx ty D (u + 1) v :=
  pntL_congr hp hC fun a b h1 h2 h3 h4 => kB_congr fun hc => by
    have h5 := cB_yes hc
    by_cases e : a - tx = u ∧ b - ty = v
    · rcases hi with hi | hi
      · rw [e.1, e.2, show u + rx = rx + u by omega, show v + ry = ry + v by omega, hi] at h5
        exact absurd h5.2 (by simp)
      · exact absurd ⟨by omega, by omega, by omega, by omega⟩ (ownB_no hi)
    · omega
theorem cpL_set (hC : (D.length : Int) ≤ h * p) (hu : 0 ≤ u ∧ u < rp) (hv : 0 ≤ v ∧ v < rh) (h1 : ownB p h (rx + u) (ry + v) = true) (h2 : ownB p h (tx + u) (ty + v) = true) {n m : Nat} (hn : (n : Int) = (ty + v) * p + (tx + u)) (hm : (m : Int) = (ry + v) * p + (rx + u)) (hmD : m < D.length) :
    (cpL p h rx ry rp rh tx ty D u v).set n D[m] = cpL p h rx ry rp rh tx ty D (u + 1) v := by
  obtain ⟨o1, o2, o3, o4⟩ := ownB_yes h2
  have e1 : cF p rx ry tx ty D (tx + u) (ty + v) = D[m] := by
    unfold cF
    rw [show ty + v - ty + ry = ry + v by omega, show tx + u - tx + rx = rx + u by omega, ← hm, Int.toNat_natCast, List.getD_eq_getElem?_getD, List.getElem?_eq_getElem hmD]; rfl
  rw [← e1]
  refine pntL_set (P' := kB p h rx ry rp rh tx ty (u + 1) v) o1 o2 hC ?_ (fun a b _ _ _ _ hne => kB_congr fun _ => by omega) hn
  rw [kB_iff]
  refine ⟨cB_of (by omega) ?_, by omega⟩
  rw [show tx + u - tx + rx = rx + u by omega, show ty + v - ty + ry = ry + v by omega]
  exact h1
end

set_option maxRecDepth 100000 in
set_option maxHeartbeats 4000000 in
theorem l8Copy_any (g o b bg ca : Nat) (p h rx ry rp rh tx ty : Int) (D : List Int) (w : World) (I : Pin w g o b bg ca p h rx ry rp rh D.length) (hW : Wrt .i64 w bg (bg + 1) (some ⟨bg, 0, none⟩) D) (h1 : 1 ≤ p ∧ p ≤ 8) (h2 : 1 ≤ h ∧ h ≤ 6) (hl : (D.length : Int) = p * h) (hD : D ≠ []) (hr : rfB rx ry rp rh = false)
    (hx : -20 ≤ tx ∧ tx ≤ 20) (hy : -20 ≤ ty ∧ ty ≤ 20) :
    Calls Try.prog 62 #[.pointer (some ⟨g, o, none⟩), .pointer (some ⟨b, 0, none⟩), .int .i64 tx, .int .i64 ty] w fun e w' => e = .returned (.tuple #[]) ∧ PS w w' bg (copyL p h rx ry rp rh tx ty D) := by
  obtain ⟨⟨f1, f2⟩, ⟨f3, f4⟩, ⟨f5, f6⟩, f7, f8⟩ := rfB_no hr
  have ab := area_le h1 h2
  have hC : (D.length : Int) ≤ h * p := by rw [hl, Int.mul_comm]; omega
  have hlen : (D.length : Int) ≤ 48 := by omega
  have hlt0 : 0 < D.length := List.length_pos_iff.2 hD
  have hbg : bg < w.heap.size := World.block_lt_of_cell? w _ (hW.cells hlt0).2.2.1
  have HC := hideP hC
  have HL := hideP hl
  have HW := hideP hW
  have HI := hideP I
  have hp0 : 0 < p := by omega
  have hg : g < w.heap.size := World.block_lt_of_cell? w _ I.a6
  obtain ⟨d0, d1, d2, d3⟩ := I.R
  have hb : b < w.heap.size := World.block_lt_of_cell? w _ d0
  have c6 := I.a6
  clear hC hl hW I ab d0 d1 d2 d3
  go_enter Try.func62, Try.ntmps62
  go_wp2_with fail
  refine Calls.mono (sInts_any bg (bg + 1) (some ⟨bg, 0, none⟩) ca D w HW.out.row (by omega) (by omega)) ?_
  rintro e w1 ⟨b8, rfl, N, k1⟩
  have hN : b8.L ≠ [] := by rw [N.le]; exact hD
  have hao := N.on.2 hN
  have hin := N.inn hN
  have hwas : ∀ m (hm : m < D.length), w1.cell? ⟨b8.g, m, none⟩ = some (.int .i64 D[m]) := fun m hm => by
    have h1 := N.on.1
    rw [hao, N.le] at h1
    have := (h1.cells hm).2.2.1
    simpa using this
  rw [hao]
  have P1 : PS w w1 bg D := PS.keep ⟨Far.refl _ _ _, HW.out⟩ k1 hbg
  have hI1 : ∀ wr L, PS w1 wr bg L → wr.cell? ⟨g, o + 3, none⟩ = some (.int .i64 p) ∧ wr.cell? ⟨g, o + 4, none⟩ = some (.int .i64 h) ∧ wr.cell? ⟨g, o + 6, none⟩ = some (.slice (some ⟨bg, 0, none⟩) D.length ca) ∧ g < wr.heap.size ∧ wr.cell? ⟨b, 0, none⟩ = some (.int .i64 rx) ∧ wr.cell? ⟨b, 1, none⟩ = some (.int .i64 ry) ∧ wr.cell? ⟨b, 2, none⟩ = some (.int .i64 rp) ∧ wr.cell? ⟨b, 3, none⟩ = some (.int .i64 rh) ∧ b < wr.heap.size := fun wr L S => by
    have q := S.cell ((P1.cell HI.out.a6 HI.out.n1).1) HI.out.n1
    have r := S.cell ((P1.cell HI.out.R.1 HI.out.n2).1) HI.out.n2
    exact ⟨(S.cell ((P1.cell HI.out.a3 HI.out.n1).1) HI.out.n1).1, (S.cell ((P1.cell HI.out.a4 HI.out.n1).1) HI.out.n1).1, q.1, q.2, r.1, by simpa using (S.cell ((P1.cell HI.out.R.2 HI.out.n2).1) HI.out.n2).1, by simpa using (S.cell ((P1.cell HI.out.R.3 HI.out.n2).1) HI.out.n2).1, by simpa using (S.cell ((P1.cell HI.out.R.4 HI.out.n2).1) HI.out.n2).1, r.2⟩
  have HI1 := hideP hI1
  have HP1 := hideP P1
  obtain ⟨B8, hB8⟩ : ∃ B8, b8.g = B8 := ⟨_, rfl⟩
  rw [hB8] at hwas hin ⊢
  have hW8 : ∀ wr L, PS w1 wr bg L → ∀ m (hm : m < D.length), wr.cell? ⟨B8, m, none⟩ = some (.int .i64 D[m]) ∧ B8 < wr.heap.size := fun wr L S m hm => S.cell (hwas m hm) (by omega)
  have HW8 := hideP hW8
  have HF1 : Hid (Far bg (bg + 1) w w1) := hideP P1.far
  have hbg1 : bg < w1.heap.size := by have := k1.size; omega
  clear k1 N hN hao hin hwas P1 hI1 hB8 hW8 c6
  go_wp2
  go_loopw [9] (fun yy wr => ∃ j : Nat, (j : Int) ≤ rh ∧ yy = .int .i64 (j : Int) ∧ PS w1 wr bg (cpL p h rx ry rp rh tx ty D 0 (j : Int))) (fun yy _ => (rh - intOf yy).toNat)
  case atStart => exact ⟨0, by omega, rfl, Far.refl _ _ _, by rw [show ((0 : Nat) : Int) = 0 from rfl, cpL_start]; exact HP1.out.wrt⟩
  case round =>
    obtain ⟨j, hj, rfl, F1⟩ := hrel
    have HF2 := hideP F1
    obtain ⟨c3, c4, c6, hgr, d0, d1, d2, d3, hbr⟩ := HI1.out _ _ F1
    clear F1
    by_cases hj2 : (j : Int) < rh
    · go_wp2
      clear c3 c4 c6 d0 d1 d2 d3
      go_loopw [10] (fun xx wr => ∃ i : Nat, (i : Int) ≤ rp ∧ xx = .int .i64 (i : Int) ∧ PS w1 wr bg (cpL p h rx ry rp rh tx ty D (i : Int) (j : Int))) (fun xx _ => (rp - intOf xx).toNat)
      case atStart => exact ⟨0, by omega, rfl, HF2.out⟩
      case round =>
        obtain ⟨i, hi, rfl, F3⟩ := hrel
        have HF3 := hideP F3
        obtain ⟨c3, c4, c6, hgr, d0, d1, d2, d3, hbr⟩ := HI1.out _ _ F3
        clear F3
        by_cases hi2 : (i : Int) < rp
        · have hw3 : IntKind.i64.wrap (rx + (i : Int)) = rx + (i : Int) := IntWalk.i64_in _ (by omega)
          have hw4 : IntKind.i64.wrap (ry + (j : Int)) = ry + (j : Int) := IntWalk.i64_in _ (by omega)
          cases hs : ownB p h (rx + (i : Int)) (ry + (j : Int))
          · have LP := hideP (fun w' (kk : Kept wr w') => by
              obtain ⟨c3', c4', _⟩ := HI1.out _ _ (HF3.out.keep kk hbg1)
              exact l8Place_no g o p h (rx + (i : Int)) (ry + (j : Int)) w' h1 h2 c3' c4' hs)
            have SK := hideP (cpL_skip (p := p) (h := h) (rx := rx) (ry := ry) (rp := rp) (rh := rh) (tx := tx) (ty := ty) (u := (i : Int)) (v := (j : Int)) (D := D) hp0 HC.out (.inl hs))
            go_wp2
            refine wp_region_kept (by kernel_rfl) (by kernel_rfl) ?_
            repeat (refine kept_step (by rfl) ?_; apply Exists.intro; refine ⟨fun w1 k1 => ?_, fun K hK => ?_⟩; (focus (have hc := Kept.cell k1; go_simp; first | done | rfl | (go_at_call 51; exact kept_call_same k1 (LP.out _ k1)))); (go_simp; refine hK _ ?_; clear hK K))
            refine wpQuiet_nil ?_
            intro w7 k7
            replace k7 := Kept.below k7
            have hc7 := Kept.cell k7
            have hf7 := Kept.frozen k7
            have hz7 := k7.size
            try simp only [World.size_alloc] at hz7
            try simp only [World.size_setCell] at hz7
            try simp only [World.size_drew] at hz7
            try (first | have hs7 := sz12 hz7 | have hs7 := sz11 hz7 | have hs7 := sz10 hz7 | have hs7 := sz9 hz7 | have hs7 := sz8 hz7 | have hs7 := sz7 hz7 | have hs7 := sz6 hz7 | have hs7 := sz5 hz7 | have hs7 := sz4 hz7 | have hs7 := sz3 hz7 | have hs7 := sz2 hz7 | have hs7 := sz1 hz7)
            have HF7 := hideP (HF3.out.keep k7 hbg1)
            have LQ : Calls Try.prog 51 #[.pointer (some ⟨g, o, none⟩), .int .i64 (tx + (i : Int)), .int .i64 (ty + (j : Int))] w7 fun e w' => (∃ q : Int, e = .returned (.int .i64 q)) ∧ w' = w7 := by
              obtain ⟨c3', c4', _⟩ := HI1.out _ _ HF7.out
              cases hd : ownB p h (tx + (i : Int)) (ty + (j : Int))
              · exact (l8Place_no g o p h _ _ w7 h1 h2 c3' c4' hd).mono fun e w' ⟨e1, e2⟩ => ⟨⟨_, e1⟩, e2⟩
              · exact (l8Place_yes g o p h _ _ w7 h1 h2 c3' c4' hd).mono fun e w' ⟨e1, e2⟩ => ⟨⟨_, e1⟩, e2⟩
            clear c3 c4 c6 d0 d1 d2 d3 k7 hc7 hf7 hs
            go_wp2_with fail
            refine Calls.mono LQ ?_
            rintro e w8 ⟨⟨q, rfl⟩, hw⟩
            subst w8
            clear LQ
            go_wp2
            go_roundw
            case rel => exact ⟨i + 1, by omega, by go_num, by rw [show ((i + 1 : Nat) : Int) = (i : Int) + 1 by omega, ← SK.out]; exact HF7.out⟩
            case measure => simp [intOf]; omega
          · obtain ⟨m, hm⟩ : ∃ m : Nat, (m : Int) = (ry + (j : Int)) * p + (rx + (i : Int)) := ⟨((ry + (j : Int)) * p + (rx + (i : Int))).toNat, by have := row_le h1 h2 hs; have := ownB_yes hs; omega⟩
            have hmL : m < D.length := by have := row_le h1 h2 hs; have := HL.out; omega
            have hmi : (m : Int) < (D.length : Int) := by omega
            have hm0 : ¬ (m : Int) < 0 := by omega
            have LP := hideP (fun w' (kk : Kept wr w') => by
              obtain ⟨c3', c4', _⟩ := HI1.out _ _ (HF3.out.keep kk hbg1)
              have h := l8Place_yes g o p h (rx + (i : Int)) (ry + (j : Int)) w' h1 h2 c3' c4' hs
              rw [← hm] at h
              exact h)
            cases hd : ownB p h (tx + (i : Int)) (ty + (j : Int))
            · have SK := hideP (cpL_skip (p := p) (h := h) (rx := rx) (ry := ry) (rp := rp) (rh := rh) (tx := tx) (ty := ty) (u := (i : Int)) (v := (j : Int)) (D := D) hp0 HC.out (.inr hd))
              have HD := hideP hd
              clear hm hs hd
              go_wp2
              refine wp_region_kept (by kernel_rfl) (by kernel_rfl) ?_
              repeat (refine kept_step (by rfl) ?_; apply Exists.intro; refine ⟨fun w1 k1 => ?_, fun K hK => ?_⟩; (focus (have hc := Kept.cell k1; go_simp; first | done | rfl | (go_at_call 51; exact kept_call_same k1 (LP.out _ k1)))); (go_simp; refine hK _ ?_; clear hK K))
              refine wpQuiet_nil ?_
              intro w7 k7
              replace k7 := Kept.below k7
              have hc7 := Kept.cell k7
              have hf7 := Kept.frozen k7
              have hz7 := k7.size
              try simp only [World.size_alloc] at hz7
              try simp only [World.size_setCell] at hz7
              try simp only [World.size_drew] at hz7
              try (first | have hs7 := sz12 hz7 | have hs7 := sz11 hz7 | have hs7 := sz10 hz7 | have hs7 := sz9 hz7 | have hs7 := sz8 hz7 | have hs7 := sz7 hz7 | have hs7 := sz6 hz7 | have hs7 := sz5 hz7 | have hs7 := sz4 hz7 | have hs7 := sz3 hz7 | have hs7 := sz2 hz7 | have hs7 := sz1 hz7)
              have HF7 := hideP (HF3.out.keep k7 hbg1)
              obtain ⟨c3', c4', _⟩ := HI1.out _ _ HF7.out
              have LQ := l8Place_no g o p h _ _ w7 h1 h2 c3' c4' HD.out
              clear c3 c4 c6 d0 d1 d2 d3 k7 hc7 hf7 c3' c4'
              go_wp2_with fail
              refine Calls.mono LQ ?_
              rintro e w8 ⟨rfl, hw⟩
              subst w8
              clear LQ
              go_wp2
              go_roundw
              case rel => exact ⟨i + 1, by omega, by go_num, by rw [show ((i + 1 : Nat) : Int) = (i : Int) + 1 by omega, ← SK.out]; exact HF7.out⟩
              case measure => simp [intOf]; omega
            · obtain ⟨q, hq⟩ : ∃ q : Nat, (q : Int) = (ty + (j : Int)) * p + (tx + (i : Int)) := ⟨((ty + (j : Int)) * p + (tx + (i : Int))).toNat, by have := row_le h1 h2 hd; have := ownB_yes hd; omega⟩
              have hqL : q < D.length := by have := row_le h1 h2 hd; have := HL.out; omega
              have hqi : (q : Int) < (D.length : Int) := by omega
              have hq0 : ¬ (q : Int) < 0 := by omega
              have ST := hideP (cpL_set (p := p) (h := h) (rx := rx) (ry := ry) (rp := rp) (rh := rh) (tx := tx) (ty := ty) (u := (i : Int)) (v := (j : Int)) (D := D) HC.out ⟨by omega, hi2⟩ ⟨by omega, hj2⟩ hs hd hq hm hmL)
              have HD := hideP hd
              have HQ := hideP hq
              have hw5 : IntKind.i64.wrap (tx + (i : Int)) = tx + (i : Int) := IntWalk.i64_in _ (by omega)
              have hw6 : IntKind.i64.wrap (ty + (j : Int)) = ty + (j : Int) := IntWalk.i64_in _ (by omega)
              clear hm hs hd hq
              go_wp2
              refine wp_region_kept (by kernel_rfl) (by kernel_rfl) ?_
              repeat (refine kept_step (by rfl) ?_; apply Exists.intro; refine ⟨fun w1 k1 => ?_, fun K hK => ?_⟩; (focus (have hc := Kept.cell k1; go_simp; first | done | rfl | (go_at_call 51; exact kept_call_same k1 (LP.out _ k1)))); (go_simp; refine hK _ ?_; clear hK K))
              refine wpQuiet_nil ?_
              intro w7 k7
              replace k7 := Kept.below k7
              have hc7 := Kept.cell k7
              have hf7 := Kept.frozen k7
              have hz7 := k7.size
              try simp only [World.size_alloc] at hz7
              try simp only [World.size_setCell] at hz7
              try simp only [World.size_drew] at hz7
              try (first | have hs7 := sz12 hz7 | have hs7 := sz11 hz7 | have hs7 := sz10 hz7 | have hs7 := sz9 hz7 | have hs7 := sz8 hz7 | have hs7 := sz7 hz7 | have hs7 := sz6 hz7 | have hs7 := sz5 hz7 | have hs7 := sz4 hz7 | have hs7 := sz3 hz7 | have hs7 := sz2 hz7 | have hs7 := sz1 hz7)
              have HF7 := hideP (HF3.out.keep k7 hbg1)
              clear c3 c4 c6 d0 d1 d2 d3 k7 hc7 hf7
              obtain ⟨c3, c4, c6, hgr7, _⟩ := HI1.out _ _ HF7.out
              have LQ := l8Place_yes g o p h _ _ w7 h1 h2 c3 c4 HD.out
              rw [← HQ.out] at LQ
              obtain ⟨c8, hg8⟩ := HW8.out _ _ HF7.out m hmL
              have hqF : q < (cpL p h rx ry rp rh tx ty D (i : Int) (j : Int)).length := by rw [cpL_len]; exact hqL
              obtain ⟨dm, hdm⟩ : ∃ dm, D[m] = dm := ⟨_, rfl⟩
              rw [hdm] at c8 ST
              have HQF := hideP hqF
              clear hdm hqF c3 c4
              go_wp2_with fail
              refine Calls.mono LQ ?_
              rintro e w8 ⟨rfl, hw⟩
              subst w8
              clear LQ
              go_wp2
              refine wp_region_kept_tail 10 (by kernel_rfl) (by kernel_rfl) ?_
              simp only [List.take_succ_cons, List.take_zero, List.drop_succ_cons, List.drop_zero]
              repeat (refine kept_step (by rfl) ?_; apply Exists.intro; refine ⟨fun w1 k1 => ?_, fun K hK => ?_⟩; (focus (have hc := Kept.cell k1; go_simp; first | done | rfl)); (go_simp; refine hK _ ?_; clear hK K))
              refine wpQuiet_nil ?_
              intro w10 k10
              replace k10 := Kept.below k10
              have hc10 := Kept.cell k10
              have hf10 := Kept.frozen k10
              have hz10 := k10.size
              try simp only [World.size_alloc] at hz10
              try simp only [World.size_setCell] at hz10
              try simp only [World.size_drew] at hz10
              try (first | have hs10 := sz12 hz10 | have hs10 := sz11 hz10 | have hs10 := sz10 hz10 | have hs10 := sz9 hz10 | have hs10 := sz8 hz10 | have hs10 := sz7 hz10 | have hs10 := sz6 hz10 | have hs10 := sz5 hz10 | have hs10 := sz4 hz10 | have hs10 := sz3 hz10 | have hs10 := sz2 hz10 | have hs10 := sz1 hz10)
              have HF8 := HF7.out.keep k10 hbg1
              obtain ⟨_, _, cq0, cf⟩ := HF8.wrt.cells HQF.out
              obtain ⟨dq, cq⟩ : ∃ dq : Int, w10.cell? ⟨bg, 0 + q, none⟩ = some (.int .i64 dq) := ⟨_, cq0⟩
              clear cq0
              have hbg8 : bg < w10.heap.size := World.block_lt_of_cell? w10 _ cq
              have HF9 := HF8.one HQF.out dm
              rw [ST.out, Nat.zero_add] at HF9
              have HF9' := hideP HF9
              simp only [Nat.zero_add] at cq
              clear k10 hc10 hf10 HF8 HF9 c8 c6
              go_wp2
              go_roundw
              case rel => exact ⟨i + 1, by omega, by go_num, HF9'.out⟩
              case measure => simp [intOf]; omega
        · obtain rfl : rp = (i : Int) := by omega
          go_wp2
          go_roundw
          case rel => exact ⟨j + 1, by omega, by go_num, by rw [show ((j + 1 : Nat) : Int) = (j : Int) + 1 by omega, ← cpL_row]; exact HF3.out⟩
          case measure => simp [intOf]; omega
    · obtain rfl : rh = (j : Int) := by omega
      go_wp2
      go_returns
      exact ⟨rfl, HF1.out.trans HF2.out.far, by rw [← cpL_end]; exact HF2.out.wrt⟩
end Go.Proofs.Ytclfobpmafkgfaa
