/- What a point of the screen shows: the mathematics; the program's side. What a point of the screen shows: the specification. -/
import Derived.Test.YtmmjannkfmiohaaTs32
import Derived.Test.YtmmjannkfmiohaaTs34
import Derived.Test.YtmmjannkfmiohaaTs11
import Derived.Test.YtmmjannkfmiohaaTs10
namespace Go.Proofs.Ytmmjannkfmiohaa
open Go.RowKit Go.Maps
set_option linter.unusedVariables false

theorem fK1 (c v : Int) (w : World) : Sem.run Try.prog (Instr.field 38 (.agg #[.int .i64 c, .int .i64 v]) 1) w = .ok (.int .i64 v) w := by kernel_rfl

attribute [local go_sem high] fK1

/-- The banner of an id's slot. -/
def bansV (LL : List La) (i : Int) : Int := 256 + ((LL.getD (i / 64).toNat ⟨0, 0⟩).l * 16 + (LL.getD (i / 64).toNat ⟨0, 0⟩).p)
/-- What a window shows at a point of the screen. -/
def celS (LL : List La) (c : Wc) (x y : Int) : Int := if y = c.y then bansV LL c.i else c.L.getD ((y - c.y) * c.w + (x - c.x)).toNat 0
/-- The topmost window. -/
def topC (p q : Int) : List Wc → Option Wc
  | [] => none
  | c :: C => match topC p q C with
    | some i => some i
    | none => if hitC p q c then some c else none
theorem topC_none {p q : Int} {L : List Wn} (h : ∀ v ∈ L, hitW p q v = false) : topC p q (L.map Wn.ct) = none := by
  induction L with
  | nil => rfl
  | cons v L ih =>
    have h1 : hitC p q v.ct = false := h v (by simp)
    simp only [List.map_cons, topC, ih fun u hu => h u (by simp [hu]), h1]
    rfl
theorem topC_some {p q : Int} {L A B : List Wn} {r : Wn} (h : Top p q L A r B) : topC p q (L.map Wn.ct) = some r.ct := by
  rw [h.eq]
  have hy := h.yes
  have hn := topC_none h.no
  clear h
  induction A with
  | nil =>
    have h1 : hitC p q r.ct = true := hy
    simp only [List.nil_append, List.map_cons, topC, hn, h1, if_true]
  | cons v A ih => simp only [List.cons_append, List.map_cons, topC, ih]
def scrP (LL : List La) (C : List Wc) (p : Int × Int) : Int := match topC p.1 p.2 C with
  | none => 0
  | some c => celS LL c p.1 p.2
theorem scrP_none {LL : List La} {L : List Wn} {x y : Int} (h : ∀ v ∈ L, hitW x y v = false) : scrP LL (L.map Wn.ct) (x, y) = 0 := by unfold scrP; rw [topC_none h]
theorem scrP_some {LL : List La} {L A B : List Wn} {r : Wn} {x y : Int} (h : Top x y L A r B) : scrP LL (L.map Wn.ct) (x, y) = celS LL r.ct x y := by unfold scrP; rw [topC_some h]

/-- A window of a right stack that has a point. -/
structure Good (v : Wn) (x y : Int) : Prop where
  id : okId v.i = true
  rx : -20 ≤ v.x ∧ v.x ≤ 20
  ry : -20 ≤ v.y ∧ v.y ≤ 20
  w : 1 ≤ v.w ∧ v.w ≤ 8
  h : 1 ≤ v.h ∧ v.h ≤ 6
  len : (v.b.L.length : Int) = v.w * v.h
  own : ownB v.w v.h (x - v.x) (y - v.y) = true
theorem good_of {L A B : List Wn} {r : Wn} {x y : Int} (h : stF (L.map Wn.ct) = 0) (ht : Top x y L A r B) : Good r x y := by
  have hm : r ∈ L := by rw [ht.eq]; simp
  have h1 := stF_ok h
  have h2 := winF_no (wsF_mem h1.2 r.ct (List.mem_map_of_mem hm))
  have h3 := wrB_no h2.1
  have h4 := (idsF_ok h1.1).1 r.i (by
    rw [List.map_map]
    exact List.mem_map_of_mem (f := Wc.i ∘ Wn.ct) hm)
  refine ⟨h4, h3.1, h3.2.1, h3.2.2.1, h3.2.2.2.1, h2.2.1, ?_⟩
  have hy := ht.yes
  simp only [hitW, inB, Bool.and_eq_true, decide_eq_true_eq] at hy
  exact ownB_of (by omega)
theorem bans_at {LL : List La} {i : Int} {s : Nat} (hs : (s : Int) = i / 64) (hl : s < LL.length) : bansV LL i = 256 + (LL[s].l * 16 + LL[s].p) := by
  unfold bansV
  rw [← hs, Int.toNat_natCast, List.getD_eq_getElem?_getD, List.getElem?_eq_getElem hl]
  rfl
theorem slot_at {i : Int} (h : okId i = true) : ∃ s : Nat, (s : Int) = i / 64 ∧ s < 4 := by
  have := okId_iff.1 h
  exact ⟨(i / 64).toNat, by omega, by omega⟩

set_option maxHeartbeats 2000000 in
theorem shown_ban (i cx cy p h : Int) (m : Bool) (ao : Option Addr) (ca : Nat) (D : List Int) (la : Option Addr) (lc lo hi : Nat) (LL : List La) (x : Int) (w : World) (hok : okId i = true) (hf : laF LL = 0) (hA : Las w lo hi la LL) (hs : hi ≤ w.heap.size) :
    Calls Try.prog 29 #[.agg #[.int .i64 i, .int .i64 cx, .int .i64 cy, .int .i64 p, .int .i64 h, .bool m, .slice ao D.length ca], .slice la LL.length lc, .int .i64 x, .int .i64 cy] w fun e w' => e = .returned (.int .i64 (bansV LL i)) ∧ Below w.heap.size w w' := by
  obtain ⟨h4, hfl⟩ := laF_ok hf
  obtain ⟨s, hs1, hs2⟩ := slot_at hok
  have hsl : s < LL.length := by omega
  have hsl' : (s : Int) < (LL.length : Int) := by omega
  have SL := iSlot_yes i
  rw [← hs1] at SL
  have HSL := hideP (fun w => SL w hok)
  rw [bans_at hs1 hsl]
  have hft := hfl s hsl
  rcases hA with e | ⟨g, o, rfl, g1, g2, hc⟩
  · rw [e] at hsl; simp at hsl
  have HI := hideP (hc s hsl)
  have BN := iBan_any LL[s].l LL[s].p
  have e0 : banV LL[s].l LL[s].p = 256 + (LL[s].l * 16 + LL[s].p) := by unfold banV; rw [hft]; rfl
  rw [e0] at BN
  have HBN := hideP BN
  clear BN e0 hc SL hf hfl hft hs1 hok
  generalize LL[s].l = lx at *
  generalize LL[s].p = lp at *
  have hgl : g < w.heap.size := by omega
  have h4' : (LL.length : Int) ≤ 4 := by omega
  clear h4
  go_enter Try.func29, Try.ntmps29
  go_wp2_with fail
  refine Calls.mono (HSL.out _) ?_
  rintro e w1 ⟨rfl, k1⟩
  have K1 : Hid (Below w.heap.size w w1) := hideP (Below.trans (by go_grown) (k1.mono (by simp)))
  obtain ⟨c0, c1⟩ := HI.out.keep K1.out hgl
  have hg1 : g < w1.heap.size := by have := K1.out.size; omega
  clear k1
  go_wp2_with fail
  refine Calls.mono (HBN.out _) ?_
  rintro e w2 ⟨rfl, k2⟩
  have K2 := hideP (K1.out.trans (k2.mono K1.out.size))
  clear k2 c0 c1
  go_wp2
  go_returns
  exact ⟨rfl, K2.out⟩

set_option maxRecDepth 100000 in
set_option maxHeartbeats 4000000 in
theorem shown_cell (v : Wn) (la : Option Addr) (lc ln lo hi : Nat) (x y : Int) (w : World) (G : Good v x y) (hne : ¬ y = v.y) (hR : Row .i64 w lo hi v.b.ao v.b.L) (hs : hi ≤ w.heap.size) (hx : -100 ≤ x ∧ x ≤ 100) (hy : -100 ≤ y ∧ y ≤ 100) :
    Calls Try.prog 29 #[.agg #[.int .i64 v.i, .int .i64 v.x, .int .i64 v.y, .int .i64 v.w, .int .i64 v.h, .bool v.m, .slice v.b.ao v.b.L.length v.b.cap], .slice la ln lc, .int .i64 x, .int .i64 y] w fun e w' => e = .returned (.int .i64 (v.b.L.getD ((y - v.y) * v.w + (x - v.x)).toNat 0)) ∧ Below w.heap.size w w' := by
  obtain ⟨i, cx, cy, p, h, m, ⟨ao, ca, gb, D⟩⟩ := v
  obtain ⟨g1, ⟨g2, g2'⟩, ⟨g3, g3'⟩, g4, g5, g6, ho⟩ := G
  obtain ⟨hx1, hx2⟩ := hx
  obtain ⟨hy1, hy2⟩ := hy
  simp only at g1 g2 g2' g3 g3' g4 g5 g6 ho hne hR ⊢
  obtain ⟨r1, r2, r3⟩ := row_le g4 g5 ho
  obtain ⟨o1, o2, o3, o4⟩ := ownB_yes ho
  obtain ⟨q, hq⟩ : ∃ q : Nat, (q : Int) = (y - cy) * p + (x - cx) := ⟨((y - cy) * p + (x - cx)).toNat, by omega⟩
  have hqL : q < D.length := by omega
  have PL := fun w => placeOf_any cx cy p h (x - cx) (y - cy) w g4 g5 ho
  rw [← hq] at PL ⊢
  have HPL := hideP PL
  rw [Int.toNat_natCast, List.getD_eq_getElem?_getD, List.getElem?_eq_getElem hqL]
  simp only [Option.getD_some]
  rcases hR with e | ⟨g, o, rfl, hg1, hg2, hcell⟩
  · rw [e] at hqL; simp at hqL
  have aq := hcell q hqL
  obtain ⟨dq, hdq⟩ : ∃ dq, D[q] = dq := ⟨_, rfl⟩
  rw [hdq] at aq ⊢
  have hqi : (q : Int) < (D.length : Int) := by omega
  have hgl : g < w.heap.size := by omega
  have hne' : (y == cy) = false := by simpa using hne
  clear hcell hdq hq PL r1 r2 r3 o1 o2 o3 o4 ho g6 g1 g4 g5
  go_enter Try.func29, Try.ntmps29
  go_wp2
  have hk0 : Below w.heap.size w (w.alloc (.cells #[.int .i64 i, .int .i64 cx, .int .i64 cy, .int .i64 p, .int .i64 h, .bool m, .slice (some ⟨g, o, none⟩) D.length ca] 47)) := by go_grown
  have b1 : (w.alloc (.cells #[.int .i64 i, .int .i64 cx, .int .i64 cy, .int .i64 p, .int .i64 h, .bool m, .slice (some ⟨g, o, none⟩) D.length ca] 47)).cell? ⟨w.heap.size, 1, none⟩ = some (.int .i64 cx) := by simp [go_sem]
  have b2 : (w.alloc (.cells #[.int .i64 i, .int .i64 cx, .int .i64 cy, .int .i64 p, .int .i64 h, .bool m, .slice (some ⟨g, o, none⟩) D.length ca] 47)).cell? ⟨w.heap.size, 2, none⟩ = some (.int .i64 cy) := by simp [go_sem]
  have b3 : (w.alloc (.cells #[.int .i64 i, .int .i64 cx, .int .i64 cy, .int .i64 p, .int .i64 h, .bool m, .slice (some ⟨g, o, none⟩) D.length ca] 47)).cell? ⟨w.heap.size, 3, none⟩ = some (.int .i64 p) := by simp [go_sem]
  have b4 : (w.alloc (.cells #[.int .i64 i, .int .i64 cx, .int .i64 cy, .int .i64 p, .int .i64 h, .bool m, .slice (some ⟨g, o, none⟩) D.length ca] 47)).cell? ⟨w.heap.size, 4, none⟩ = some (.int .i64 h) := by simp [go_sem]
  have b6 : (w.alloc (.cells #[.int .i64 i, .int .i64 cx, .int .i64 cy, .int .i64 p, .int .i64 h, .bool m, .slice (some ⟨g, o, none⟩) D.length ca] 47)).cell? ⟨w.heap.size, 6, none⟩ = some (.slice (some ⟨g, o, none⟩) D.length ca) := by simp [go_sem]
  have bz : w.heap.size < (w.alloc (.cells #[.int .i64 i, .int .i64 cx, .int .i64 cy, .int .i64 p, .int .i64 h, .bool m, .slice (some ⟨g, o, none⟩) D.length ca] 47)).heap.size := by simp
  have bq := (hk0.cell (p := ⟨g, o + q, none⟩) hgl).trans aq
  generalize w.alloc (.cells #[.int .i64 i, .int .i64 cx, .int .i64 cy, .int .i64 p, .int .i64 h, .bool m, .slice (some ⟨g, o, none⟩) D.length ca] 47) = w0 at *
  have hg0 : g < w0.heap.size := by omega
  have HK0 := hideP hk0
  have HNE := hideP hne
  have hwx : IntKind.i64.wrap (x - cx) = x - cx := IntWalk.i64_in _ (by omega)
  have hwy : IntKind.i64.wrap (y - cy) = y - cy := IntWalk.i64_in _ (by omega)
  clear aq hk0 hne hne' hgl hqL hg1 hg2
  refine wp_region_kept (by kernel_rfl) (by kernel_rfl) ?_
  repeat (refine kept_step (by rfl) ?_; apply Exists.intro; refine ⟨fun w1 k1 => ?_, fun K hK => ?_⟩; (focus (have hc := Kept.cell k1; go_simp; first | done | rfl | (go_at_call 41; exact kept_call k1 (HPL.out _)))); (go_simp; refine hK _ ?_; clear hK K))
  refine wpQuiet_nil ?_
  intro w5 k5
  replace k5 := Kept.below k5
  have hc5 := Kept.cell k5
  have hf5 := Kept.frozen k5
  have hz5 := k5.size
  try simp only [World.size_alloc] at hz5
  try simp only [World.size_setCell] at hz5
  try simp only [World.size_drew] at hz5
  try (first | have hs5 := sz12 hz5 | have hs5 := sz11 hz5 | have hs5 := sz10 hz5 | have hs5 := sz9 hz5 | have hs5 := sz8 hz5 | have hs5 := sz7 hz5 | have hs5 := sz6 hz5 | have hs5 := sz5 hz5 | have hs5 := sz4 hz5 | have hs5 := sz3 hz5 | have hs5 := sz2 hz5 | have hs5 := sz1 hz5)
  go_wp2
  go_returns
  exact ⟨rfl, HK0.out.trans (k5.mono HK0.out.size)⟩

theorem shown_any (v : Wn) (la : Option Addr) (lc lo hi lo2 hi2 : Nat) (LL : List La) (x y : Int) (w : World) (G : Good v x y) (hf : laF LL = 0) (hA : Las w lo hi la LL) (hs : hi ≤ w.heap.size) (hR : Row .i64 w lo2 hi2 v.b.ao v.b.L) (hs2 : hi2 ≤ w.heap.size) (hx : -100 ≤ x ∧ x ≤ 100) (hy : -100 ≤ y ∧ y ≤ 100) :
    Calls Try.prog 29 #[.agg #[.int .i64 v.i, .int .i64 v.x, .int .i64 v.y, .int .i64 v.w, .int .i64 v.h, .bool v.m, .slice v.b.ao v.b.L.length v.b.cap], .slice la LL.length lc, .int .i64 x, .int .i64 y] w fun e w' => e = .returned (.int .i64 (celS LL v.ct x y)) ∧ Below w.heap.size w w' := by
  unfold celS
  by_cases e : y = v.y
  · rw [if_pos (show y = v.ct.y from e), e]
    exact shown_ban v.i v.x v.y v.w v.h v.m v.b.ao v.b.cap v.b.L la lc lo hi LL x w G.id hf hA hs
  · rw [if_neg (show ¬ y = v.ct.y from e)]
    exact shown_cell v la lc LL.length lo2 hi2 x y w G e hR hs2 hx hy
end Go.Proofs.Ytmmjannkfmiohaa

namespace Go.Proofs.Ytmmjannkfmiohaa
open Go.RowKit Go.Maps
set_option linter.unusedVariables false

set_option maxHeartbeats 2000000 in
theorem cell9_none (so : Option Addr) (sc : Nat) (L : List Wn) (la : Option Addr) (lc ln : Nat) (x y : Int) (w : World) (hL : Ws w 0 w.heap.size so L) (hn : L.length ≤ 1048576) (hst : stF (L.map Wn.ct) = 0) (hno : ∀ v ∈ L, hitW x y v = false) :
    Calls Try.prog 58 #[.slice so L.length sc, .slice la ln lc, .int .i64 x, .int .i64 y] w fun e w' => e = .returned (.int .i64 0) ∧ Below w.heap.size w w' := by
  have TN := hideP (l7Top_none so sc L x y 0 w.heap.size w hL (Nat.le_refl _) hn (st_rect hst) hno)
  clear hL hst hno
  go_enter Try.func58, Try.ntmps58
  go_wp2_with fail
  refine Calls.mono TN.out ?_
  rintro e w1 ⟨rfl, k1⟩
  go_wp2
  go_returns
  exact ⟨rfl, k1⟩

set_option maxRecDepth 100000 in
set_option maxHeartbeats 4000000 in
theorem cell9_ban (so : Option Addr) (sc : Nat) (L A B : List Wn) (r : Wn) (la : Option Addr) (lc lo hi : Nat) (LL : List La) (x y : Int) (w : World) (hL : Ws w 0 w.heap.size so L) (hn : L.length ≤ 1048576) (hst : stF (L.map Wn.ct) = 0) (ht : Top x y L A r B) (hf : laF LL = 0) (hA : Las w lo hi la LL) (hs : hi ≤ w.heap.size) (hy : y = r.y) :
    Calls Try.prog 58 #[.slice so L.length sc, .slice la LL.length lc, .int .i64 x, .int .i64 y] w fun e w' => e = .returned (.int .i64 (bansV LL r.i)) ∧ Below w.heap.size w w' := by
  have G := good_of hst ht
  have TN := hideP (l7Top_some so sc L x y 0 w.heap.size w hL (Nat.le_refl _) hn (st_rect hst) A B r ht)
  obtain ⟨h4, hfl⟩ := laF_ok hf
  obtain ⟨s, hs1, hs2⟩ := slot_at G.id
  have hid := okId_iff.1 G.id
  have hsl : s < LL.length := by omega
  have hsl' : (s : Int) < (LL.length : Int) := by omega
  rw [bans_at hs1 hsl]
  have hft := hfl s hsl
  rcases hA with e | ⟨g, o, rfl, g1, g2, hc⟩
  · rw [e] at hsl; simp at hsl
  have HI := hideP (hc s hsl)
  have CD := hideP (fun w => code_ok LL[s].l LL[s].p w hft)
  have h0 := hL
  rw [ht.eq] at h0
  obtain ⟨gs, os, rfl, hgs, hcs, _⟩ := Ws.at h0
  have hAl : (A.length : Int) < (L.length : Int) := by rw [ht.eq]; simp; omega
  have hge : ¬ (A.length : Int) < 0 := by omega
  have HC := hideP hcs
  have hb := hideP (fltB_no hft)
  obtain ⟨ri, hri⟩ : ∃ ri, r.i = ri := ⟨_, rfl⟩
  obtain ⟨ry, hry⟩ : ∃ ry, r.y = ry := ⟨_, rfl⟩
  rw [hri] at hid hs1
  rw [hry] at hy
  have HRI := hideP hri
  have HRY := hideP hry
  obtain ⟨i0, i1, i2, i3⟩ := hid
  have hq : IntKind.i64.wrap (ri.tdiv 64) = (s : Int) := by rw [Int.tdiv_eq_ediv_of_nonneg i0, ← hs1]; exact IntWalk.i64_in _ (by omega)
  have hq2 : ri.tdiv 64 = (s : Int) := by rw [Int.tdiv_eq_ediv_of_nonneg i0, ← hs1]
  have hq3 : ri / 64 = (s : Int) := hs1.symm
  clear hc hft h0 hcs hL hst ht hf hfl G hs1 h4 i1 i2 i3 hri hry
  obtain ⟨lx, hlx⟩ : ∃ lx, LL[s].l = lx := ⟨_, rfl⟩
  obtain ⟨lp, hlp⟩ : ∃ lp, LL[s].p = lp := ⟨_, rfl⟩
  rw [hlx, hlp] at HI CD hb ⊢
  obtain ⟨q1, q2, q3, q4⟩ := hb.out
  clear hlx hlp
  subst hy
  go_enter Try.func58, Try.ntmps58
  go_wp2_with fail
  refine Calls.mono TN.out ?_
  rintro e w1 ⟨rfl, k1⟩
  obtain ⟨c0, c1⟩ := HI.out.keep k1 (by omega)
  have z1 := k1.size
  have d0 := (HC.out.keep k1 hgs).seven.1
  have d2 := (HC.out.keep k1 hgs).seven.2.2.1
  rw [HRI.out] at d0
  rw [HRY.out] at d2
  have hg1 : g < w1.heap.size := by omega
  have hgs1 : gs < w1.heap.size := by omega
  have K1 := hideP k1
  clear k1
  go_wp2_with fail
  refine Calls.mono (CD.out _) ?_
  rintro e w2 ⟨rfl, k2⟩
  have K2 := hideP (K1.out.trans (k2.mono z1))
  clear k2 c0 c1 d0 d2
  go_wp2
  go_returns
  exact ⟨rfl, K2.out⟩

set_option maxRecDepth 100000 in
set_option maxHeartbeats 4000000 in
theorem cell9_cell (so : Option Addr) (sc : Nat) (L A B : List Wn) (r : Wn) (la : Option Addr) (lc ln : Nat) (x y : Int) (w : World) (hL : Ws w 0 w.heap.size so L) (hn : L.length ≤ 1048576) (hst : stF (L.map Wn.ct) = 0) (ht : Top x y L A r B) (hy : ¬ y = r.y) (hx1 : -100 ≤ x ∧ x ≤ 100) (hy1 : -100 ≤ y ∧ y ≤ 100) :
    Calls Try.prog 58 #[.slice so L.length sc, .slice la ln lc, .int .i64 x, .int .i64 y] w fun e w' => e = .returned (.int .i64 (r.b.L.getD ((y - r.y) * r.w + (x - r.x)).toNat 0)) ∧ Below w.heap.size w w' := by
  have G := good_of hst ht
  have TN := hideP (l7Top_some so sc L x y 0 w.heap.size w hL (Nat.le_refl _) hn (st_rect hst) A B r ht)
  have h0 := hL
  rw [ht.eq] at h0
  obtain ⟨gs, os, rfl, hgs, hcs, hRow⟩ := Ws.at h0
  have hAl : (A.length : Int) < (L.length : Int) := by rw [ht.eq]; simp; omega
  have hge : ¬ (A.length : Int) < 0 := by omega
  obtain ⟨i, cx, cy, p, h, m, ⟨ao, ca, gb, D⟩⟩ := r
  obtain ⟨g1, ⟨g2, g2'⟩, ⟨g3, g3'⟩, g4, g5, g6, ho⟩ := G
  obtain ⟨hx1, hx2⟩ := hx1
  obtain ⟨hy1, hy2⟩ := hy1
  simp only at g1 g2 g2' g3 g3' g4 g5 g6 ho hy hRow ⊢
  obtain ⟨r1, r2, r3⟩ := row_le g4 g5 ho
  obtain ⟨o1, o2, o3, o4⟩ := ownB_yes ho
  obtain ⟨q, hq⟩ : ∃ q : Nat, (q : Int) = (y - cy) * p + (x - cx) := ⟨((y - cy) * p + (x - cx)).toNat, by omega⟩
  have hqL : q < D.length := by omega
  rw [← hq, Int.toNat_natCast, List.getD_eq_getElem?_getD, List.getElem?_eq_getElem hqL]
  simp only [Option.getD_some]
  rcases hRow with e | ⟨g, o, rfl, hg1, hg2, hcell⟩
  · rw [e] at hqL; simp at hqL
  have aq := hcell q hqL
  obtain ⟨dq, hdq⟩ : ∃ dq, D[q] = dq := ⟨_, rfl⟩
  rw [hdq] at aq ⊢
  have hqi : (q : Int) < (D.length : Int) := by omega
  have HC := hideP hcs
  have AQ := hideP aq
  have HO := hideP ho
  have HQ := hideP hq
  have hne' : (y == cy) = false := by simpa using hy
  have hwx : IntKind.i64.wrap (x - cx) = x - cx := IntWalk.i64_in _ (by omega)
  have hwy : IntKind.i64.wrap (y - cy) = y - cy := IntWalk.i64_in _ (by omega)
  have G4 := hideP g4
  have G5 := hideP g5
  clear hcell hdq hq r1 r2 r3 o1 o2 o3 o4 ho g6 g1 g4 g5 hL hst ht h0 hcs aq hy hqL
  go_enter Try.func58, Try.ntmps58
  go_wp2_with fail
  refine Calls.mono TN.out ?_
  rintro e w1 ⟨rfl, k1⟩
  have z1 := k1.size
  obtain ⟨a0, a1, a2, a3, a4, a5, a6⟩ := (HC.out.keep k1 hgs).seven
  simp only at a0 a1 a2 a3 a4 a5 a6
  have bq := (k1.cell (p := ⟨g, o + q, none⟩) (by show g < _; omega)).trans AQ.out
  have hgl : g < w1.heap.size := by omega
  have hgs1 : gs < w1.heap.size := by omega
  have K1 := hideP k1
  have LP := hideP (fun W (kk : Kept w1 W) => l8Place_yes gs (os + A.length * 7) p h (x - cx) (y - cy) W G4.out G5.out ((Kept.cell kk gs _ hgs1).trans a3) ((Kept.cell kk gs _ hgs1).trans a4) HO.out)
  rw [← HQ.out] at LP
  clear k1 a0 a5
  go_wp2
  refine wp_region_kept (by kernel_rfl) (by kernel_rfl) ?_
  repeat (refine kept_step (by rfl) ?_; apply Exists.intro; refine ⟨fun w1 k1 => ?_, fun K hK => ?_⟩; (focus (have hc := Kept.cell k1; go_simp; first | done | rfl | (go_at_call 71; exact kept_call_same k1 (LP.out _ k1)))); (go_simp; refine hK _ ?_; clear hK K))
  refine wpQuiet_nil ?_
  intro w5 k5
  replace k5 := Kept.below k5
  have hc5 := Kept.cell k5
  have hf5 := Kept.frozen k5
  have hz5 := k5.size
  try simp only [World.size_alloc] at hz5
  try simp only [World.size_setCell] at hz5
  try simp only [World.size_drew] at hz5
  try (first | have hs5 := sz12 hz5 | have hs5 := sz11 hz5 | have hs5 := sz10 hz5 | have hs5 := sz9 hz5 | have hs5 := sz8 hz5 | have hs5 := sz7 hz5 | have hs5 := sz6 hz5 | have hs5 := sz5 hz5 | have hs5 := sz4 hz5 | have hs5 := sz3 hz5 | have hs5 := sz2 hz5 | have hs5 := sz1 hz5)
  go_wp2
  go_returns
  exact ⟨rfl, K1.out.trans (k5.mono z1)⟩

theorem cell9_any (so : Option Addr) (sc : Nat) (L : List Wn) (la : Option Addr) (lc lo hi : Nat) (LL : List La) (x y : Int) (w : World) (hL : Ws w 0 w.heap.size so L) (hn : L.length ≤ 1048576) (hst : stF (L.map Wn.ct) = 0) (hf : laF LL = 0) (hA : Las w lo hi la LL) (hs : hi ≤ w.heap.size) (hx1 : -100 ≤ x ∧ x ≤ 100) (hy1 : -100 ≤ y ∧ y ≤ 100) :
    Calls Try.prog 58 #[.slice so L.length sc, .slice la LL.length lc, .int .i64 x, .int .i64 y] w fun e w' => e = .returned (.int .i64 (scrP LL (L.map Wn.ct) (x, y))) ∧ Below w.heap.size w w' := by
  rcases top_or x y L with hno | ⟨A, r, B, ht⟩
  · rw [scrP_none hno]
    exact cell9_none so sc L la lc LL.length x y w hL hn hst hno
  · rw [scrP_some ht]
    unfold celS
    by_cases e : y = r.y
    · rw [if_pos (show y = r.ct.y from e)]
      exact cell9_ban so sc L A B r la lc lo hi LL x y w hL hn hst ht hf hA hs e
    · rw [if_neg (show ¬ y = r.ct.y from e)]
      exact cell9_cell so sc L A B r la lc LL.length x y w hL hn hst ht e hx1 hy1
end Go.Proofs.Ytmmjannkfmiohaa
