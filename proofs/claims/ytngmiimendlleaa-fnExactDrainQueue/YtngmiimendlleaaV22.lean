/- Messages marked, and held behind it. -/
import Derived.Test.YtngmiimendlleaaV21
namespace Go.Proofs.Ytngmiimendlleaa
open Go.RowKit
set_option linter.unusedVariables false

def mkM : Int → List Mg → List Mg
  | _, [] => []
  | k, m :: L => ⟨k, mark1 (k + 1) m.b⟩ :: mkM (k + 1 + m.b.L.length) L
theorem mkM_len (k : Int) (L : List Mg) : (mkM k L).length = L.length := by
  induction L generalizing k with
  | nil => rfl
  | cons m L ih => simp only [mkM, List.length_cons, ih]
theorem mkM_app (k : Int) (A B : List Mg) : mkM k (A ++ B) = mkM k A ++ mkM (k + A.length + mzs A) B := by
  induction A generalizing k with
  | nil => simp [mkM, mzs_nil]
  | cons m A ih =>
    simp only [List.cons_append, mkM, ih, List.length_cons, mzs_cons, List.cons.injEq, true_and]
    congr 2
    push_cast
    omega
theorem mkM_one (k : Int) (m : Mg) : mkM k [m] = [⟨k, mark1 (k + 1) m.b⟩] := rfl
theorem mkM_mzs (k : Int) (L : List Mg) : mzs (mkM k L) = mzs L := by
  induction L generalizing k with
  | nil => rfl
  | cons m L ih => simp only [mkM, mzs_cons, ih, mark1_len]

theorem SpM.vals {w : World} {lo hi : Nat} {so : Option Addr} {L L' : List Mg} (h : SpM w lo hi so L) (e : L.map Mg.vals = L'.map Mg.vals) : SpM w lo hi so L' := by
  have hl : L.length = L'.length := by simpa using congrArg List.length e
  rcases h with rfl | ⟨g, ha, g1, g2, hc, hf⟩
  · exact .inl (List.length_eq_zero_iff.1 hl.symm)
  · refine .inr ⟨g, ha, g1, g2, fun i hi => ?_, hf⟩
    have h1 : i < L.length := by omega
    have h2 : (L.map Mg.vals)[i]? = (L'.map Mg.vals)[i]? := by rw [e]
    simp only [List.getElem?_map, List.getElem?_eq_getElem h1, List.getElem?_eq_getElem hi, Option.map_some, Option.some.injEq, Mg.vals, List.cons.injEq] at h2
    obtain ⟨c0, c1⟩ := hc i h1
    exact ⟨by rw [← h2.1]; exact c0, by rw [← h2.2.1]; exact c1⟩
theorem SpM.at {w : World} {lo hi : Nat} {so : Option Addr} {X Y : List Mg} {m : Mg} (h : SpM w lo hi so (X ++ m :: Y)) : ∃ g, so = some ⟨g, 0, none⟩ ∧ lo ≤ g ∧ g < hi ∧ m.cells w g (X.length * 2) ∧ ∀ c, w.frozen? ⟨g, c, none⟩ = false := by
  rcases h with h | ⟨g, ha, g1, g2, hc, hf⟩
  · simp at h
  · have := hc X.length (by simp)
    simp only [List.getElem_append_right (Nat.le_refl _), Nat.sub_self, List.getElem_cons_zero] at this
    exact ⟨g, ha, g1, g2, this, hf⟩
theorem SpM.kind {w : World} {lo hi g : Nat} {X Y : List Mg} {m : Mg} (h : SpM w lo hi (some ⟨g, 0, none⟩) (X ++ m :: Y)) (q : Int) : SpM (w.setCell ⟨g, X.length * 2, none⟩ (.int .i64 q)) lo hi (some ⟨g, 0, none⟩) (X ++ ⟨q, m.b⟩ :: Y) := by
  rcases h with h | ⟨g', ha, g1, g2, hc, hf⟩
  · simp at h
  · cases ha
    refine .inr ⟨g, rfl, g1, g2, fun i hi => ?_, fun c => by simpa using hf c⟩
    have hi' : i < (X ++ m :: Y).length := by simpa using hi
    have h0 := hc i hi'
    by_cases e : i = X.length
    · subst e
      simp only [List.getElem_append_right (Nat.le_refl _), Nat.sub_self, List.getElem_cons_zero] at h0 ⊢
      exact ⟨cell_set_same h0.c0, (cell_set_other (by omega)).trans h0.c1⟩
    · have e2 : (X ++ (⟨q, m.b⟩ : Mg) :: Y)[i] = (X ++ m :: Y)[i] := by
        by_cases hx : i < X.length
        · rw [List.getElem_append_left hx, List.getElem_append_left hx]
        · obtain ⟨j, rfl⟩ : ∃ j, i = X.length + (j + 1) := ⟨i - X.length - 1, by omega⟩
          simp
      rw [e2]
      exact ⟨(cell_set_other (by omega)).trans h0.c0, (cell_set_other (by omega)).trans h0.c1⟩
theorem SpM.otherSet {w : World} {lo hi g o : Nat} {s2 : Option Addr} {L2 : List Mg} {v : Value} (h : SpM w lo hi s2 L2) (hne : L2 ≠ [] → s2 ≠ some ⟨g, 0, none⟩) : SpM (w.setCell ⟨g, o, none⟩ v) lo hi s2 L2 := by
  rcases h with h | ⟨g2, ha, g1, g3, hc, hf⟩
  · exact .inl h
  · by_cases e : L2 = []
    · exact .inl e
    · have hg : g2 ≠ g := fun e' => hne e (by rw [ha, e'])
      refine .inr ⟨g2, ha, g1, g3, fun i hi => ?_, fun c => by simpa using hf c⟩
      obtain ⟨c0, c1⟩ := hc i hi
      exact ⟨(World.cell?_setCell_other _ _ _ _ (by first | (simp; done) | (simp; omega))).trans c0, (World.cell?_setCell_other _ _ _ _ (by first | (simp; done) | (simp; omega))).trans c1⟩
theorem SpM.body {w : World} {lo hi g : Nat} {X Y : List Mg} {m : Mg} {bs : List Bd} {v : Value} {o : Nat} (h : SpM w lo hi (some ⟨g, 0, none⟩) (X ++ m :: Y)) (hB : Bods w lo hi bs) : Bods (w.setCell ⟨g, o, none⟩ v) lo hi bs := by
  rcases h with h | ⟨g', ha, g1, g2, hc, hf⟩
  · simp at h
  · cases ha
    exact ⟨fun d hd => Bd.on_set (hB.each d hd) _ _ fun e => SpM.ne' hc (by simp) (hB.each d hd) e, hB.inn, hB.apart⟩

theorem mark_oneM (lo hi : Nat) (X Y : List Bd) (b : Bd) (k : Int) (w : World) (h : Bods w lo hi (X ++ b :: Y)) (hh : hi ≤ w.heap.size) (hl : b.L.length ≤ 1048576) (k0 : 0 ≤ k) (k1 : k ≤ 4194304) :
    Calls Try.prog 36 #[.slice b.ao b.L.length b.cap, .int .i64 k] w fun e w' => e = .returned (.int .i64 (k + b.L.length)) ∧ Far lo hi w w' ∧ Bods w' lo hi (X ++ mark1 k b :: Y) ∧ ∀ so bs, SpM w lo hi so bs → SpM w' lo hi so bs := by
  have hb := h.each b (by simp)
  by_cases e : b.L = []
  · refine (markB_any 0 0 b.ao b.cap k b.L w (.inl e) (Nat.zero_le _) hl k0 k1).mono fun en w' ⟨he, f, _⟩ => ⟨he, ⟨f.os, f.tape, f.output, f.size, fun q hq _ => f.block q hq (by omega)⟩, ?_, fun so bs s => s.far f (.inr (Nat.zero_le _)) hh⟩
    have hm : mark1 k b = b := by
      cases b with
      | mk ao cap g L =>
        simp only at e
        subst e
        rfl
    rw [hm]
    exact h.far f (.inr (Nat.zero_le _))
  · have hi1 := h.inn b (by simp) e
    exact (markB_any b.g (b.g + 1) b.ao b.cap k b.L w hb.1 (Bd.lt hb e) hl k0 k1).mono fun en w' ⟨he, f, wr⟩ => ⟨he, f.wide hi1.1 hi1.2, h.mark e f wr, fun so bs s => s.far1 hb e f hh⟩

set_option maxRecDepth 100000 in
set_option maxHeartbeats 1000000 in
theorem markMS_any (lo hi : Nat) (so : Option Addr) (sc : Nat) (U : List Bd) (L : List Mg) (Z : List Bd) (k : Int) (w : World) (hB : Bods w lo hi (U ++ (L.map Mg.b ++ Z))) (hS : SpM w lo hi so L) (h1 : hi ≤ w.heap.size) (hn : L.length + mzs L ≤ 1048576) (k0 : 0 ≤ k) (k1 : k ≤ 1048577) :
    Calls Try.prog 24 #[.slice so L.length sc, .int .i64 k] w fun e w' => e = .returned (.int .i64 (k + L.length + mzs L)) ∧ Far lo hi w w' ∧ Bods w' lo hi (U ++ ((mkM k L).map Mg.b ++ Z)) ∧ SpM w' lo hi so (mkM k L) ∧ (∀ s2 L2, SpM w lo hi s2 L2 → (L ≠ [] → L2 ≠ [] → s2 ≠ so) → SpM w' lo hi s2 L2) := by
  have hn' : (L.length : Int) ≤ 1048576 := by omega
  have HB := hideP hB
  have HS := hideP hS
  clear hB hS
  go_enter Try.func24, Try.ntmps24
  go_wp2
  go_loopw [1, 5] (fun q i wr => ∃ X Y : List Mg, X ++ Y = L ∧ i = .int .i64 (X.length : Nat) ∧ q = .int .i64 (k + (X.length : Int) + (mzs X : Int)) ∧ Far lo hi w wr ∧ Bods wr lo hi (U ++ ((mkM k X).map Mg.b ++ (Y.map Mg.b ++ Z))) ∧ SpM wr lo hi so (mkM k X ++ Y) ∧ (∀ s2 L2, SpM w lo hi s2 L2 → (L ≠ [] → L2 ≠ [] → s2 ≠ so) → SpM wr lo hi s2 L2)) (fun _ i _ => L.length - (intOf i).toNat)
  case atStart => exact ⟨[], L, rfl, rfl, by simp [mzs_nil], Far.refl _ _ _, HB.out, HS.out, fun _ _ h _ => h⟩
  case round =>
    obtain ⟨X, Y, hXY, rfl, rfl, f, B, Sp, Oth⟩ := hrel
    have hlen : X.length + Y.length = L.length := by rw [← hXY]; simp
    have htot : mzs X + mzs Y = mzs L := by rw [← hXY, mzs_app]
    have hz := f.size
    cases Y with
    | cons m Y =>
      have hlt : (X.length : Int) < (L.length : Int) := by simp at hlen; omega
      have hmz : mzs X + m.b.L.length + mzs Y = mzs L := by rw [mzs_cons] at htot; omega
      have htb : mzs (X ++ [m]) = mzs X + m.b.L.length := by rw [mzs_app, mzs_one]
      obtain ⟨g, rfl, g1, g2, hc, hf⟩ := Sp.at
      rw [mkM_len] at hc
      obtain ⟨q, hq⟩ : ∃ q : Int, k + (X.length : Int) + (mzs X : Int) = q := ⟨_, rfl⟩
      have hq0 : 0 ≤ q := by omega
      have hq1 : q ≤ 2097154 := by omega
      have SK := Sp.kind q
      rw [mkM_len] at SK
      have BK := Sp.body (v := .int .i64 q) (o := X.length * 2) B
      have OK := hideP (fun s2 L2 h hne => (Oth s2 L2 h hne).otherSet (g := g) (o := X.length * 2) (v := .int .i64 q) (hne (by rw [← hXY]; simp)))
      have FK := f.trans ((Far.refl lo hi wr).setCell (p := ⟨g, X.length * 2, none⟩) g1 g2 (.int .i64 q))
      have hgl : g < wr.heap.size := by omega
      have fr0 := hf (X.length * 2)
      have C1 := (cell_set_other (w := wr) (g := g) (c := X.length * 2) (d := X.length * 2 + 1) (v := .int .i64 q) (by omega)).trans hc.c1
      have C0 := hc.c0
      have HXY := hideP hXY
      have HTB := hideP htb
      have HQ := hideP hq
      have HSK := hideP SK
      have HBK := hideP BK
      have HFK := hideP FK
      clear SK BK FK f B Sp Oth hc hf HB HS hXY htb hlen htot
      obtain ⟨km, b⟩ := m
      obtain ⟨ao, cap, gb, D⟩ := b
      simp only at C0 C1 hmz HTB HSK HBK
      have hD : D.length ≤ 1048576 := by omega
      rw [hq]
      clear hq
      go_wp2_with fail
      clear C0 C1
      have hz1 : wr.heap.size = (wr.setCell ⟨g, X.length * 2, none⟩ (.int .i64 q)).heap.size := by simp
      generalize wr.setCell ⟨g, X.length * 2, none⟩ (.int .i64 q) = w1 at *
      have MK := mark_oneM lo hi (U ++ (mkM k X).map Mg.b) (Y.map Mg.b ++ Z) ⟨ao, cap, gb, D⟩ (q + 1) w1 (by simpa using HBK.out) (by omega) hD (by omega) (by omega)
      refine Calls.mono MK ?_
      rintro e w2 ⟨rfl, f2, B2, S2⟩
      have F2 := hideP (HFK.out.trans f2)
      have B2' := hideP B2
      have S2' := hideP (S2 _ _ HSK.out)
      have O2' := hideP (fun s2 L2 h hne => S2 s2 L2 (OK.out s2 L2 h hne))
      clear f2 B2 S2 HFK HBK HSK OK MK
      go_wp2
      go_roundw
      case rel =>
        refine ⟨X ++ [⟨km, ⟨ao, cap, gb, D⟩⟩], Y, mid_in HXY.out, by simp, ?_, F2.out, ?_, ?_, O2'.out⟩
        · rw [HTB.out, List.length_append, ← HQ.out]; simp; go_num
        · rw [mkM_app, mkM_one, HQ.out]; simpa using B2'.out
        · rw [mkM_app, mkM_one, HQ.out]
          refine S2'.out.vals ?_
          simp [Mg.vals, mark1, rowOf_len]
      case measure => simp [intOf]; omega
    | nil =>
      have hX : X = L := by simpa using hXY
      subst hX
      have F' := hideP f
      have B' := hideP B
      have S' := hideP Sp
      have O' := hideP Oth
      clear f B Sp Oth HB HS hXY hlen htot
      go_wp2
      go_returns
      exact ⟨rfl, F'.out, by simpa using B'.out, by simpa using S'.out, O'.out⟩

set_option maxHeartbeats 1000000 in
theorem heldMS_any (lo hi : Nat) (so : Option Addr) (sc : Nat) (L : List Mg) (k : Int) (w : World) (hB : ∀ b ∈ (mkM k L).map Mg.b, b.on w) (hS : SpM w lo hi so (mkM k L)) (hh : hi ≤ w.heap.size) (hn : L.length + mzs L ≤ 1048576) (k0 : 0 ≤ k) (k1 : k ≤ 1048577) :
    Calls Try.prog 25 #[.slice so L.length sc, .int .i64 k] w fun e w' => e = .returned (.int .i64 (k + L.length + mzs L)) ∧ w' = w := by
  have hn' : (L.length : Int) ≤ 1048576 := by omega
  have HB := hideP hB
  have HS := hideP hS
  clear hB hS
  go_enter Try.func25, Try.ntmps25
  go_wp2
  go_loop [1, 5] (fun q i => ∃ X Y : List Mg, X ++ Y = L ∧ i = .int .i64 (X.length : Nat) ∧ q = .int .i64 (k + (X.length : Int) + (mzs X : Int))) (fun _ i => L.length - (intOf i).toNat)
  case atStart => exact ⟨[], L, rfl, rfl, by simp [mzs_nil]⟩
  case round =>
    obtain ⟨X, Y, hXY, rfl, rfl⟩ := hrel
    have hlen : X.length + Y.length = L.length := by rw [← hXY]; simp
    have htot : mzs X + mzs Y = mzs L := by rw [← hXY, mzs_app]
    cases Y with
    | cons m Y =>
      have hlt : (X.length : Int) < (L.length : Int) := by simp at hlen; omega
      have hmz : mzs X + m.b.L.length + mzs Y = mzs L := by rw [mzs_cons] at htot; omega
      have htb : mzs (X ++ [m]) = mzs X + m.b.L.length := by rw [mzs_app, mzs_one]
      have hS := HS.out
      rw [← hXY, mkM_app] at hS
      obtain ⟨q, hq⟩ : ∃ q : Int, k + (X.length : Int) + (mzs X : Int) = q := ⟨_, rfl⟩
      rw [hq] at hS
      obtain ⟨g, rfl, g1, g2, hc, hf⟩ := SpM.at (X := mkM k X) (m := ⟨q, mark1 (q + 1) m.b⟩) (Y := mkM (q + 1 + m.b.L.length) Y) hS
      rw [mkM_len] at hc
      have hq0 : 0 ≤ q := by omega
      have hq1 : q ≤ 2097154 := by omega
      have hgl : g < w.heap.size := by omega
      have hon := HB.out (mark1 (q + 1) m.b) (by rw [← hXY, mkM_app, hq]; simp [mkM])
      have HQ := hideP hq
      have HTB := hideP htb
      have HXY := hideP hXY
      obtain ⟨C0, C1⟩ := hc
      simp only [mark1_len] at C0 C1
      clear hS hf hXY htb hlen htot HB HS
      obtain ⟨km, b⟩ := m
      obtain ⟨ao, cap, gb, D⟩ := b
      simp only [mark1] at C0 C1 hmz HTB hon
      have hD : D.length ≤ 1048576 := by omega
      rw [hq]
      clear hq
      have HLD := held_one_body (q + 1) ⟨ao, cap, gb, D⟩ w hon hD (by omega) (by omega)
      simp only at HLD
      have HLD' := hideP HLD
      clear HLD hon
      go_wp2_with fail
      refine Calls.mono HLD'.out ?_
      rintro e w2 ⟨rfl, rfl⟩
      clear C0 C1 HLD'
      have hpos : ¬ (q + 1 + (D.length : Int) < 0) := by omega
      go_wp2
      go_round
      case rel =>
        refine ⟨X ++ [⟨km, ⟨ao, cap, gb, D⟩⟩], Y, mid_in HXY.out, by simp, ?_⟩
        rw [HTB.out, List.length_append, ← HQ.out]; simp; go_num
      case measure => simp [intOf]; omega
    | nil =>
      have hX : X = L := by simpa using hXY
      subst hX
      clear HB HS hXY hlen htot
      go_wp2
      go_returns
      exact ⟨rfl, rfl⟩
end Go.Proofs.Ytngmiimendlleaa
