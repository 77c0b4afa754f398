/- Queues drawn, bent ones. -/
import Derived.Test.YtefkngpceeclhaaV28
import Derived.Test.YtefkngpceeclhaaV30
import Derived.Test.YtefkngpceeclhaaV7
namespace Go.Proofs.Ytefkngpceeclhaa
open Go.RowKit
set_option linter.unusedVariables false
attribute [local go_sem] growUpon growAt growUponR growAtR

def okB (C : List (Int × List Int)) : Prop := ∀ t ∈ C, t.2.length ≤ 31
theorem okM.okB {C : List (Int × List Int)} (h : okM C) : okB C := fun t ht => by have := (h t ht).2.2; omega
theorem okB_snoc {C : List (Int × List Int)} {t : Int × List Int} (h : okB C) (h3 : t.2.length ≤ 31) : okB (C ++ [t]) := fun u hu => by
  rcases List.mem_append.1 hu with hu | hu
  · exact h u hu
  · simp at hu; subst hu; exact h3
theorem byM_snoc' {C : List (Int × List Int)} {t : Int × List Int} (h : byM C) (h3 : byts t.2) : byM (C ++ [t]) := fun u hu => by
  rcases List.mem_append.1 hu with hu | hu
  · exact h u hu
  · simp at hu; subst hu; exact h3
theorem byts_nil : byts [] := fun i hi => by simp at hi
theorem byts_zero (n : Nat) : byts (List.replicate n 0) := fun i hi => by simp
def mg0 : Mg := ⟨0, ⟨none, 0, 0, []⟩⟩
theorem made_mg0 : (madeCells (Value.agg #[.int .i64 0, .slice none 0 0]).cells (11 * 2)).toList = mcs (List.replicate 11 mg0) := by
  simp only [madeCells, Value.cells, mcs, mg0]
  rw [Array.toList_map, Array.toList_range]
  rfl
theorem bods_nil (w : World) (lo hi n : Nat) : Bods w lo hi ((List.replicate n mg0).map Mg.b) := by
  refine ⟨fun d hd => ?_, fun d hd e => ?_, ?_⟩
  · have : d = mg0.b := by simp at hd; exact hd.2
    subst this
    exact Bd.on_nil _ _ rfl
  · have : d = mg0.b := by simp at hd; exact hd.2
    subst this
    exact absurd rfl e
  · rw [List.map_replicate]
    exact List.pairwise_replicate.2 (.inr fun h => absurd rfl h)
theorem zerosB' {w : World} {base g n : Nat} (h : w.ownsRow base 5 1 (.slice (some ⟨g, 0, none⟩) n n) n (madeCells (Value.int .u8 0).cells (n * 1)).toList) : OwnR .u8 5 w base (some ⟨g, 0, none⟩) n (List.replicate n 0) := by
  have e : (madeCells (Value.int .u8 0).cells (n * 1)).toList = (List.replicate n 0).map (Value.int .u8) := by
    apply List.ext_getElem
    · simp [madeCells, Value.cells]
    · intro i h1 h2
      have hm : i % 1 = 0 := Nat.mod_one i
      simp [madeCells, Value.cells, hm]
  unfold OwnR
  rw [e] at h
  simpa using h
/-- The state of a bent draw. -/
structure QS (w wr : World) (B b : Nat) (a : Option Addr) (len cap : Nat) (f : Nat → Int) (bq : Nat) (s : Option Addr) (c : Nat) (M : List Mg) (v : Bool) (t : Int) : Prop where
  box : Rb wr bq (.slice s M.length c) (.bool v)
  res : Rb wr w.heap.size (.slice none 0 0) (.bool false)
  src : Src wr B b a len cap f t
  lin : Lin wr (w.heap.size + 1) s c M
  turn : Turn b w wr
theorem QS.grow {w wr wr' : World} {B b : Nat} {a : Option Addr} {len cap : Nat} {f : Nat → Int} {bq : Nat} {s : Option Addr} {c : Nat} {M : List Mg} {v : Bool} {t : Int} (h : QS w wr B b a len cap f bq s c M v t) (k : Below wr.heap.size wr wr') : QS w wr' B b a len cap f bq s c M v t :=
  ⟨h.box.keep k h.box.lt, h.res.keep k h.res.lt, h.src.grow k, h.lin.keep k, h.turn.trans (Turn.of_below k)⟩
theorem QS.next {w wr wr' : World} {B b : Nat} {a : Option Addr} {len cap : Nat} {f : Nat → Int} {bq : Nat} {s : Option Addr} {c : Nat} {M : List Mg} {v : Bool} {t t' : Int} (h : QS w wr B b a len cap f bq s c M v t) (k : Turn b wr wr') (hs : Src wr' B b a len cap f t') (hb : b < w.heap.size) (hq : w.heap.size < bq) : QS w wr' B b a len cap f bq s c M v t' :=
  ⟨h.box.far k.asFar (by omega), h.res.far k.asFar (by omega), hs, h.lin.far1 k.asFar (by omega), h.turn.trans k⟩
theorem QS.put {w wr wr' : World} {B b : Nat} {a : Option Addr} {len cap : Nat} {f : Nat → Int} {bq : Nat} {s s' : Option Addr} {c c' : Nat} {M : List Mg} {m : Mg} {v : Bool} {t : Int} (h : QS w wr B b a len cap f bq s c M v t) (hb : b < w.heap.size) (hB : Bods wr (w.heap.size + 1) wr.heap.size ((M ++ [m]).map Mg.b)) (o' : OwnM wr' (w.heap.size + 1) s' c' (M ++ [m])) (hg : wr.grownBy wr' (Value.ownBlock (.slice s M.length c))) (k : Below (w.heap.size + 1) wr wr') :
    Lin wr' (w.heap.size + 1) s' c' (M ++ [m]) ∧ Rb wr' bq (.slice s M.length c) (.bool v) ∧ Rb wr' w.heap.size (.slice none 0 0) (.bool false) ∧ Src wr' B b a len cap f t ∧ Turn b w wr' :=
  ⟨Lin.pushed h.lin.own hB o' hg, h.box.grown hg (h.lin.own.notBox h.box.c0), h.res.keep k (by omega), h.src.below k (by omega), h.turn.upon k (by omega)⟩

set_option maxRecDepth 100000 in
set_option maxHeartbeats 8000000 in
theorem bentQ_any (w : World) (B b : Nat) (a : Option Addr) (len cap : Nat) (f : Nat → Int) (t : Int) (S : Src w B b a len cap f t) (t0 : 0 ≤ t) (t1 : t ≤ 50000) :
    Calls Try.prog 41 #[.pointer (some ⟨b, 0, none⟩)] w (DrQ w B b a len cap f t 300 13 okB) := by
  have hlt := S.lt
  have ka := kal3 w (.cells #[.slice none 0 0, .bool false] 26)
  have S1 := hideP (S.grow ka)
  have Z1 := hideP (rb_new w (.slice none 0 0) (.bool false) 26)
  have T1 := hideP (Turn.of_below (b := b) ka)
  clear S ka
  go_enter Try.func41, Try.ntmps41
  go_wp2_with fail
  have n1 : (w.alloc (.cells #[.slice none 0 0, .bool false] 26)).heap.size = w.heap.size + 1 := by simp
  generalize w.alloc (.cells #[.slice none 0 0, .bool false] 26) = w1 at *
  refine Calls.mono (drawQ_any w1 B b a len cap f t S1.out t0 (by omega)) ?_
  rintro e w2 ⟨s, c, M, v, t2, rfl, hok, hby, hM12, h2, ht20, ht21, S2, L2⟩
  have ka := kal3 w2 (.cells #[.slice s M.length c, .bool v] 26)
  have n2 := h2.size
  have HQ3 : Hid (QS w (w2.alloc (.cells #[.slice s M.length c, .bool v] 26)) B b a len cap f w2.heap.size s c M v t2) := hideP ⟨rb_new _ _ _ _, (Z1.out.far h2.asFar (by omega)).keep ka (by omega), S2.grow ka, by rw [← n1]; exact L2.keep ka, (T1.out.trans h2).trans (Turn.of_below ka)⟩
  have n3 : (w2.alloc (.cells #[.slice s M.length c, .bool v] 26)).heap.size = w2.heap.size + 1 := by simp
  have HOK := hideP hok.okB
  have HBY := hideP hby
  clear ka S2 L2 h2 S1 Z1 T1 hok hby
  go_wp2_with fail
  generalize w2.alloc (.cells #[.slice s M.length c, .bool v] 26) = w3 at *
  refine Calls.mono (next_any w3 B b a len cap f t2 12 HQ3.out.src ht20 (by omega) (by omega) (by omega)) ?_
  rintro e w4 ⟨y, rfl, y0, y12, h4, S4⟩
  have HQ4 := hideP (HQ3.out.next h4 S4 hlt (by omega))
  have n4 := h4.size
  obtain ⟨bq, hbq⟩ : ∃ bq, w2.heap.size = bq := ⟨_, rfl⟩
  rw [hbq] at HQ4 n3 n2 ⊢
  clear h4 S4 HQ3 hbq
  have hbq1 : bq < w4.heap.size := by omega
  by_cases e0 : y = 0
  · subst e0
    obtain ⟨p0, p1, p2, p3, p4⟩ := HQ4.out.box
    go_wp2_with fail
    refine wp_region_takesR (R := Stay (fun q => q = bq)) (G := Kept) (rel_stay _) rel_keptA (fun h => Stay.of_below h) 8 [0, 1, 2] [3, 4, 5, 6, 7] (by kernel_rfl) (by kernel_rfl) ?_
    simp only [sel, List.filterMap_cons, List.filterMap_nil, List.getElem?_cons_succ, List.getElem?_cons_zero]
    repeat (refine grow_stepR (by rfl) ?_; apply Exists.intro; refine ⟨fun w1 k1 => ?_, fun K hK => ?_⟩; (focus (have hc := fun o => k1.cell bq o rfl hbq1; go_simp; first | done | rfl)); (go_simp; refine hK _ ?_; clear hK K))
    refine grow_nilR ?_
    clear p0 p1 p2 p3 p4
    refine mades_stepR (by rfl) fun w5 k5 => ?_
    have kk5 := Kept.below k5
    have n5 := kk5.size
    refine made_allocR (rel_stay _) (b := .cells #[.int .i64 0, .int .i64 7, .int .i64 8] 2) (by go_simp; first | done | rfl) fun K hK => ?_
    go_simp
    refine hK _ ?_
    clear hK K
    refine mades_stepR (by rfl) fun w6 k6 => ?_
    have kk6 := Kept.below k6
    have K46 : Below w4.heap.size w4 w6 := kk5.trans (((kal3 w5 (.cells #[.int .i64 0, .int .i64 7, .int .i64 8] 2)).mono n5).trans (kk6.mono (by simp; omega)))
    have NU : Nums w6 w5.heap.size 3 (fun i => ([0, 7, 8] : List Int).getD i 0) := ⟨by have := kk6.size; simp at this; omega, fun i hi => by
      rw [kk6.cell (p := ⟨w5.heap.size, i, none⟩) (by simp), World.cell?_alloc_new]
      have : i = 0 ∨ i = 1 ∨ i = 2 := by omega
      rcases this with rfl | rfl | rfl <;> rfl⟩
    have Q6 := HQ4.out.grow K46
    have n6 := K46.size
    refine made_callsR (by go_simp; first | done | rfl) ((pickQ_of w6 B b a len cap f _ w5.heap.size 3 3 _ Q6.src (by omega) (by omega) (by omega) (by omega) NU (by omega)).mono ?_)
    rintro e w7 ⟨z, rfl, _, ht, hs⟩
    have HQ7 := hideP (Q6.next ht hs hlt (by omega))
    have n7 := ht.size
    refine ⟨_, rfl, ⟨ht.size, fun q hq hq' => ht.block q hq' (by omega)⟩, fun K hK => ?_⟩
    go_simp
    refine hK _ ?_
    clear hK K
    clear k5 kk5 k6 kk6 K46 NU Q6 ht hs HQ4
    refine mades_stepR (by rfl) fun w8 k8 => ?_
    have kk8 := Kept.below k8
    refine made_valueR (rel_stay _) (v := .agg #[.int .i64 z, .slice none 0 0]) (by go_simp; first | done | rfl) fun K hK => ?_
    go_simp
    refine hK _ ?_
    clear hK K
    refine mades_stepR (by rfl) fun w9 k9 => ?_
    have kk9 := Kept.below k9
    refine made_allocR (rel_stay _) (b := .cells #[.int .i64 z, .slice none 0 0] 28) (by go_simp; first | done | rfl) fun K hK => ?_
    go_simp
    refine hK _ ?_
    clear hK K
    refine mades_stepR (by rfl) fun w10 k10 => ?_
    have kk10 := Kept.below k10
    have n8 := kk8.size
    have n9 := kk9.size
    have K7A : Below w7.heap.size w7 w10 := kk8.trans ((kk9.mono n8).trans (((kal3 w9 (.cells #[.int .i64 z, .slice none 0 0] 28)).mono (by omega)).trans (kk10.mono (by simp; omega))))
    have HQ10 := hideP (HQ7.out.grow K7A)
    have C10 : Hid (Mg.cells w10 w9.heap.size 0 ⟨z, ⟨none, 0, 0, []⟩⟩) := hideP (by
      have h := (rb_new w9 (.int .i64 z) (.slice none 0 0) 28).keep kk10 (by simp)
      exact ⟨h.c0, h.c1⟩)
    have n10 := K7A.size
    have hB10 := hideP (HQ10.out.lin.bods.snoc (b := (⟨none, 0, 0, []⟩ : Bd)) (hi' := w10.heap.size) (Bd.on_nil _ _ rfl) (fun e => absurd rfl e) (Nat.le_refl _))
    clear k8 kk8 k9 kk9 k10 kk10 K7A HQ7
    refine made_appM _ _ rfl (w.heap.size + 1) s c M rfl HQ10.out.lin.own w9.heap.size 1 ⟨z, ⟨none, 0, 0, []⟩⟩ rfl C10.out (by omega) (by omega) ?_
    intro s11 c11 w11 O11 G11 K11
    have HX := hideP (HQ10.out.put hlt (by rw [List.map_append]; exact hB10.out) O11 G11 K11)
    have hnb : some bq ≠ Value.ownBlock (.slice s M.length c) := HQ10.out.lin.own.notBox HQ10.out.box.c0
    have n11 := G11.size
    refine ⟨Stay.grown G11 (fun q hq => by rw [hq]; exact hnb), fun K hK => ?_⟩
    clear O11 G11 K11 HQ10 C10 hB10
    go_simp
    refine hK _ ?_
    clear hK K
    refine mades_nilR fun w12 k12 => ?_
    have kk12 := Kept.below k12
    have HL12 := hideP (HX.out.1.keep kk12)
    have HB12 := hideP (HX.out.2.1.keep kk12 HX.out.2.1.lt)
    have HR12 := hideP (HX.out.2.2.1.keep kk12 HX.out.2.2.1.lt)
    have HS12 := hideP (HX.out.2.2.2.1.grow kk12)
    have HT12 := hideP (HX.out.2.2.2.2.trans (Turn.of_below kk12))
    have n12 := kk12.size
    clear k12 kk12 HX
    obtain ⟨p0, p1, p2, p3, p4⟩ := HB12.out
    obtain ⟨q0, q1, q2, q3, q4⟩ := HR12.out
    have b0 := cell_set_same (v := .slice s11 (M.length + 1) c11) p0
    have b1 := (cell_set_other (w := _) (g := bq) (c := 0) (d := 1) (v := .slice s11 (M.length + 1) c11) (by omega)).trans p1
    go_wp2
    refine bodyPost_ret (v := .agg #[.slice s11 (M.length + 1) c11, .bool v]) (by simp [results, Try.results41, go_sem, *]) rfl ⟨s11, c11, M ++ [⟨z, ⟨none, 0, 0, []⟩⟩], v, t2 + 1 + 1, by simp, by rw [List.map_append]; exact okB_snoc HOK.out (by simp [Mg.ct]), by rw [List.map_append]; exact byM_snoc' HBY.out byts_nil, by simp; omega, ?_, by omega, by omega, ?_, ?_⟩
    · repeat' (first | (with_reducible exact Turn.refl _ _) | (with_reducible refine Turn.setCell ?_ ?_ _) | (with_reducible refine Turn.alloc ?_ _) | (with_reducible refine Turn.drew ?_) | (with_reducible refine Turn.trans ?_ (by assumption)) | go_size)
      exact HT12.out
    · repeat' (first | (with_reducible exact HS12.out) | refine Src.store ?_ _ _ (by dsimp only; omega))
    · refine Lin.le (base := w.heap.size + 1) ?_ (by omega)
      have HLB := HL12.out
      repeat' (first | (with_reducible exact HLB) | (refine Lin.set ?_ _ _ (by dsimp only; omega)) | (refine Lin.setBox ?_ HB12.out.c0))
  by_cases e1 : y = 1
  · subst e1
    clear e0
    obtain ⟨i0, hi0, hz0, hz1, hz2⟩ := info_parts Try.infoM
    go_wp2_with (first | (at_make; refine wpList_make_full _ rfl _ _ 24 rfl (w.heap.size + 1) 28 i0 (.agg #[.int .i64 0, .slice none 0 0]) 2 Try.underlying24 hi0 hz0 hz1 .i64 .i64 _ _ 11 rfl rfl rfl rfl (by rw [hz2]; omega) (by unfold maxLen; omega) (by omega) ?_; intro w5 hown5 hgrow5; refine Hid.out ?_) | go_in)
    have kk5 : Below w4.heap.size w4 w5 := (Below.refl _ w4).grown hgrow5 (Nat.le_refl _) (by simp)
    have HQ5 := HQ4.out.grow kk5
    have n5 := kk5.size
    rw [made_mg0] at hown5
    have HL5 : Hid (Lin w5 (w.heap.size + 1) (some ⟨w4.heap.size, 0, none⟩) 11 (List.replicate 11 mg0)) := hideP ⟨⟨by simpa using hown5, fun e => by simp at e⟩, bods_nil _ _ _ _⟩
    have HB5 := hideP HQ5.box
    have HR5 := hideP HQ5.res
    have HS5 := hideP HQ5.src
    have HT5 := hideP HQ5.turn
    clear kk5 hown5 hgrow5 HQ5 HQ4 hi0 hz0 hz1 hz2
    refine hideP ?_
    obtain ⟨p0, p1, p2, p3, p4⟩ := HB5.out
    obtain ⟨q0, q1, q2, q3, q4⟩ := HR5.out
    have b0 := cell_set_same (v := .slice (some ⟨w4.heap.size, 0, none⟩) (11) 11) p0
    have b1 := (cell_set_other (w := _) (g := bq) (c := 0) (d := 1) (v := .slice (some ⟨w4.heap.size, 0, none⟩) (11) 11) (by omega)).trans p1
    go_wp2
    refine bodyPost_ret (v := .agg #[.slice (some ⟨w4.heap.size, 0, none⟩) (11) 11, .bool v]) (by simp [results, Try.results41, go_sem, *]) rfl ⟨(some ⟨w4.heap.size, 0, none⟩), 11, (List.replicate 11 mg0), v, (t2 + 1), by simp, (fun u hu => by simp at hu; rw [hu]; simp [mg0, Mg.ct]), (fun u hu => by simp at hu; rw [hu]; exact byts_nil), (by simp), ?_, by omega, by omega, ?_, ?_⟩
    · repeat' (first | (with_reducible exact Turn.refl _ _) | (with_reducible refine Turn.setCell ?_ ?_ _) | (with_reducible refine Turn.alloc ?_ _) | (with_reducible refine Turn.drew ?_) | (with_reducible refine Turn.trans ?_ (by assumption)) | go_size)
      exact HT5.out
    · repeat' (first | (with_reducible exact HS5.out) | refine Src.store ?_ _ _ (by dsimp only; omega))
    · refine Lin.le (base := w.heap.size + 1) ?_ (by omega)
      have HLB := HL5.out
      repeat' (first | (with_reducible exact HLB) | (refine Lin.set ?_ _ _ (by dsimp only; omega)) | (refine Lin.setBox ?_ HB5.out.c0))
  by_cases e2 : y = 2
  · subst e2
    clear e0 e1
    obtain ⟨p0, p1, p2, p3, p4⟩ := HQ4.out.box
    go_wp2_with fail
    refine wp_region_takesR (R := Stay (fun q => q = bq)) (G := Kept) (rel_stay _) rel_keptA (fun h => Stay.of_below h) 9 [0, 1, 2] [3, 4, 5, 6, 7, 8] (by kernel_rfl) (by kernel_rfl) ?_
    simp only [sel, List.filterMap_cons, List.filterMap_nil, List.getElem?_cons_succ, List.getElem?_cons_zero]
    repeat (refine grow_stepR (by rfl) ?_; apply Exists.intro; refine ⟨fun w1 k1 => ?_, fun K hK => ?_⟩; (focus (have hc := fun o => k1.cell bq o rfl hbq1; go_simp; first | done | rfl)); (go_simp; refine hK _ ?_; clear hK K))
    refine grow_nilR ?_
    clear p0 p1 p2 p3 p4
    refine mades_stepR (by rfl) fun w5 k5 => ?_
    have kk5 := Kept.below k5
    have n5 := kk5.size
    refine made_allocR (rel_stay _) (b := .cells #[.int .i64 30, .int .i64 31] 2) (by go_simp; first | done | rfl) fun K hK => ?_
    go_simp
    refine hK _ ?_
    clear hK K
    refine mades_stepR (by rfl) fun w6 k6 => ?_
    have kk6 := Kept.below k6
    have K46 : Below w4.heap.size w4 w6 := kk5.trans (((kal3 w5 (.cells #[.int .i64 30, .int .i64 31] 2)).mono n5).trans (kk6.mono (by simp; omega)))
    have NU : Nums w6 w5.heap.size 2 (fun i => ([30, 31] : List Int).getD i 0) := ⟨by have := kk6.size; simp at this; omega, fun i hi => by
      rw [kk6.cell (p := ⟨w5.heap.size, i, none⟩) (by simp), World.cell?_alloc_new]
      have : i = 0 ∨ i = 1 := by omega
      rcases this with rfl | rfl <;> rfl⟩
    have Q6 := HQ4.out.grow K46
    have n6 := K46.size
    refine made_callsR (by go_simp; first | done | rfl) ((pickQ_of w6 B b a len cap f _ w5.heap.size 2 2 _ Q6.src (by omega) (by omega) (by omega) (by omega) NU (by omega)).mono ?_)
    rintro e w7 ⟨z, rfl, ⟨i, hi, hz⟩, ht, hs⟩
    obtain ⟨n, rfl, hn31⟩ : ∃ n : Nat, z = (n : Int) ∧ n ≤ 31 := by
      have : i = 0 ∨ i = 1 := by omega
      rcases this with rfl | rfl
      · exact ⟨30, by simpa using hz, by omega⟩
      · exact ⟨31, by simpa using hz, by omega⟩
    clear hz hi
    have HQ7 := hideP (Q6.next ht hs hlt (by omega))
    have n7 := ht.size
    refine ⟨_, rfl, ⟨ht.size, fun q hq hq' => ht.block q hq' (by omega)⟩, fun K hK => ?_⟩
    go_simp
    refine hK _ ?_
    clear hK K
    clear k5 kk5 k6 kk6 K46 NU Q6 ht hs HQ4
    refine mades_stepR (by rfl) fun w8 k8 => ?_
    have kk8 := Kept.below k8
    have n8 := kk8.size
    obtain ⟨i0, hi0, hz0, hz1, hz2⟩ := info_parts Try.infoB
    obtain ⟨w9, hrun, hown9, hgrow9⟩ := run_make_full (P := Try.prog) w8 w8.heap.size 22 5 i0 (.int .u8 0) 1 Try.underlying22 hi0 hz0 hz1 .i64 .i64 n (by rw [hz2]; omega) (by unfold maxLen; omega) (Nat.le_refl _)
    have kk9 : Below w8.heap.size w8 w9 := (Below.refl _ w8).grown hgrow9 (Nat.le_refl _) (by simp)
    have n9 := kk9.size
    obtain ⟨gd, hgd⟩ := NewB.of_own (zerosB' hown9)
    have hND := hideP hgd
    refine made_toR (v := .slice (some ⟨w8.heap.size, 0, none⟩) n n) (w2 := w9) (by go_simp; first | done | rfl) (Stay.of_below kk9) fun K hK => ?_
    go_simp
    refine hK _ ?_
    clear hK K
    clear hrun hown9 hgrow9 hi0 hz0 hz1 hz2 hgd
    refine mades_stepR (by rfl) fun wa ka => ?_
    have kka := Kept.below ka
    refine made_valueR (rel_stay _) (v := .agg #[.int .i64 1, .slice (some ⟨w8.heap.size, 0, none⟩) n n]) (by go_simp; first | done | rfl) fun K hK => ?_
    go_simp
    refine hK _ ?_
    clear hK K
    refine mades_stepR (by rfl) fun wb kb => ?_
    have kkb := Kept.below kb
    refine made_allocR (rel_stay _) (b := .cells #[.int .i64 1, .slice (some ⟨w8.heap.size, 0, none⟩) n n] 28) (by go_simp; first | done | rfl) fun K hK => ?_
    go_simp
    refine hK _ ?_
    clear hK K
    refine mades_stepR (by rfl) fun w10 k10 => ?_
    have kk10 := Kept.below k10
    have na := kka.size
    have nb := kkb.size
    have K9A : Below w9.heap.size w9 w10 := kka.trans ((kkb.mono na).trans (((kal3 wb (.cells #[.int .i64 1, .slice (some ⟨w8.heap.size, 0, none⟩) n n] 28)).mono (by omega)).trans (kk10.mono (by simp; omega))))
    have K7A : Below w7.heap.size w7 w10 := kk8.trans ((kk9.mono n8).trans (K9A.mono (by omega)))
    have HQ10 := hideP (HQ7.out.grow K7A)
    have hN10 := hideP (hND.out.keep K9A)
    have C10 : Hid (Mg.cells w10 wb.heap.size 0 ⟨1, ⟨some ⟨w8.heap.size, 0, none⟩, n, gd, List.replicate n 0⟩⟩) := hideP (by
      have h := (rb_new wb (.int .i64 1) (.slice (some ⟨w8.heap.size, 0, none⟩) n n) 28).keep kk10 (by simp)
      exact ⟨h.c0, by simpa using h.c1⟩)
    have n10 := K9A.size
    have hB10 := hideP (((HQ7.out.lin.keep kk8).bods.keep (B := w8.heap.size) (kk9.trans (K9A.mono n9)) (Nat.le_refl _)).snoc (b := (⟨some ⟨w8.heap.size, 0, none⟩, n, gd, List.replicate n 0⟩ : Bd)) (hi' := w10.heap.size) hN10.out.on (fun e => by have := hN10.out.inn e; omega) (by omega))
    clear k8 kk8 kk9 ka kka kb kkb k10 kk10 K9A K7A HQ7 hND hN10
    refine made_appM _ _ rfl (w.heap.size + 1) s c M rfl HQ10.out.lin.own wb.heap.size 1 ⟨1, ⟨some ⟨w8.heap.size, 0, none⟩, n, gd, List.replicate n 0⟩⟩ rfl C10.out (by omega) (by omega) ?_
    intro s11 c11 w11 O11 G11 K11
    have HX := hideP (HQ10.out.put hlt (by rw [List.map_append]; exact hB10.out) O11 G11 K11)
    have hnb : some bq ≠ Value.ownBlock (.slice s M.length c) := HQ10.out.lin.own.notBox HQ10.out.box.c0
    have n11 := G11.size
    refine ⟨Stay.grown G11 (fun q hq => by rw [hq]; exact hnb), fun K hK => ?_⟩
    clear O11 G11 K11 HQ10 C10 hB10
    go_simp
    refine hK _ ?_
    clear hK K
    refine mades_nilR fun w12 k12 => ?_
    have kk12 := Kept.below k12
    have HL12 := hideP (HX.out.1.keep kk12)
    have HB12 := hideP (HX.out.2.1.keep kk12 HX.out.2.1.lt)
    have HR12 := hideP (HX.out.2.2.1.keep kk12 HX.out.2.2.1.lt)
    have HS12 := hideP (HX.out.2.2.2.1.grow kk12)
    have HT12 := hideP (HX.out.2.2.2.2.trans (Turn.of_below kk12))
    have n12 := kk12.size
    clear k12 kk12 HX
    obtain ⟨p0, p1, p2, p3, p4⟩ := HB12.out
    obtain ⟨q0, q1, q2, q3, q4⟩ := HR12.out
    have b0 := cell_set_same (v := .slice s11 (M.length + 1) c11) p0
    have b1 := (cell_set_other (w := _) (g := bq) (c := 0) (d := 1) (v := .slice s11 (M.length + 1) c11) (by omega)).trans p1
    go_wp2
    refine bodyPost_ret (v := .agg #[.slice s11 (M.length + 1) c11, .bool v]) (by simp [results, Try.results41, go_sem, *]) rfl ⟨s11, c11, (M ++ [⟨1, ⟨some ⟨w8.heap.size, 0, none⟩, n, gd, List.replicate n 0⟩⟩]), v, (t2 + 1 + 1), by simp, (by rw [List.map_append]; exact okB_snoc HOK.out (by simp [Mg.ct]; omega)), (by rw [List.map_append]; exact byM_snoc' HBY.out (byts_zero n)), (by simp; omega), ?_, by omega, by omega, ?_, ?_⟩
    · repeat' (first | (with_reducible exact Turn.refl _ _) | (with_reducible refine Turn.setCell ?_ ?_ _) | (with_reducible refine Turn.alloc ?_ _) | (with_reducible refine Turn.drew ?_) | (with_reducible refine Turn.trans ?_ (by assumption)) | go_size)
      exact HT12.out
    · repeat' (first | (with_reducible exact HS12.out) | refine Src.store ?_ _ _ (by dsimp only; omega))
    · refine Lin.le (base := w.heap.size + 1) ?_ (by omega)
      have HLB := HL12.out
      repeat' (first | (with_reducible exact HLB) | (refine Lin.set ?_ _ _ (by dsimp only; omega)) | (refine Lin.setBox ?_ HB12.out.c0))
  · have HL4 := hideP HQ4.out.lin
    have HB4 := hideP HQ4.out.box
    have HR4 := hideP HQ4.out.res
    have HS4 := hideP HQ4.out.src
    have HT4 := hideP HQ4.out.turn
    clear HQ4
    obtain ⟨p0, p1, p2, p3, p4⟩ := HB4.out
    obtain ⟨q0, q1, q2, q3, q4⟩ := HR4.out
    go_wp2
    refine bodyPost_ret (v := .agg #[.slice s M.length c, .bool v]) (by simp [results, Try.results41, go_sem, *]) rfl ⟨s, c, M, v, t2 + 1, rfl, HOK.out, HBY.out, by omega, ?_, by omega, by omega, ?_, ?_⟩
    · repeat' (first | (with_reducible exact Turn.refl _ _) | (with_reducible refine Turn.setCell ?_ ?_ _) | (with_reducible refine Turn.alloc ?_ _) | (with_reducible refine Turn.drew ?_) | (with_reducible refine Turn.trans ?_ (by assumption)) | go_size)
      exact HT4.out
    · repeat' (first | (with_reducible exact HS4.out) | refine Src.store ?_ _ _ (by dsimp only; omega))
    · refine Lin.le (base := w.heap.size + 1) ?_ (by omega)
      repeat' (first | (with_reducible exact HL4.out) | refine Lin.set ?_ _ _ (by dsimp only; omega))
end Go.Proofs.Ytefkngpceeclhaa
