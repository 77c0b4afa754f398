/- Messages packed by the program. -/
import Derived.Test.YtefkngpceeclhaaV43
import Derived.Test.YtefkngpceeclhaaV19
namespace Go.Proofs.Ytefkngpceeclhaa
open Go.RowKit
set_option linter.unusedVariables false

def pk1 (t : Int × List Int) : List Int := (1 + (t.2.length : Int)) :: t.1 :: t.2
def pkO (C : List (Int × List Int)) : List Int := C.flatMap pk1
def pkC (C : List (Int × List Int)) : Int := if 100 < C.length then 2 else msF C
def pkB (C : List (Int × List Int)) : List Int := if pkC C = 0 then pkO C else []
theorem pkO_app (A B : List (Int × List Int)) : pkO (A ++ B) = pkO A ++ pkO B := by simp [pkO]
theorem pkO_one (t : Int × List Int) : pkO [t] = pk1 t := by simp [pkO]
theorem pkO_len (C : List (Int × List Int)) (h : msF C = 0) : (pkO C).length ≤ 32 * C.length := by
  have hall := msF_mem h
  clear h
  induction C with
  | nil => simp [pkO]
  | cons t C ih =>
    have h1 := (mF_len (hall t (by simp))).1
    have := ih fun x hx => hall x (by simp [hx])
    simp only [pkO, List.flatMap_cons, List.length_append, pk1, List.length_cons] at this ⊢
    omega
theorem pkC_few {C : List (Int × List Int)} (h : ¬ 100 < C.length) : pkC C = msF C := by unfold pkC; rw [if_neg h]
theorem pkC_many {C : List (Int × List Int)} (h : 100 < C.length) : pkC C = 2 := by unfold pkC; rw [if_pos h]
theorem pkB_len (C : List (Int × List Int)) : (pkB C).length ≤ 3200 := by
  unfold pkB
  by_cases h : pkC C = 0
  · rw [if_pos h]
    by_cases h1 : 100 < C.length
    · rw [pkC_many h1] at h; simp at h
    · rw [pkC_few h1] at h
      have := pkO_len C h
      omega
  · rw [if_neg h]; simp
theorem pkB_yes {C : List (Int × List Int)} (h : ¬ 100 < C.length) (h2 : msF C = 0) : pkC C = 0 ∧ pkB C = pkO C := by
  have e : pkC C = 0 := by rw [pkC_few h, h2]
  exact ⟨e, by unfold pkB; rw [if_pos e]⟩
theorem pkB_no {C : List (Int × List Int)} (h : pkC C ≠ 0) : pkB C = [] := by unfold pkB; rw [if_neg h]
theorem msF_pre0 {X Y : List (Int × List Int)} (h : msF (X ++ Y) = 0) : msF X = 0 := msF_all fun t m => msF_mem h t (by simp [m])

/-- What packing answers. -/
def PkA (C : List (Int × List Int)) (w : World) (e : Ending) (w' : World) : Prop := ∃ ao cap, e = .returned (.agg #[.int .i64 (pkC C), .slice ao (pkB C).length cap]) ∧ OwnR .u8 5 w' w.heap.size ao cap (pkB C) ∧ Below w.heap.size w w'
theorem pkA_no {C : List (Int × List Int)} {c : Int} {w w' : World} (hc : pkC C = c) (h : c ≠ 0) (hb : Below w.heap.size w w') : PkA C w (.returned (.agg #[.int .i64 c, .slice none 0 0])) w' :=
  ⟨none, 0, by rw [pkB_no (by rw [hc]; exact h), hc]; rfl, by rw [pkB_no (by rw [hc]; exact h)]; exact OwnR.nil _ _ _ _, hb⟩
theorem pkA_yes {C : List (Int × List Int)} {w w' : World} {ao : Option Addr} {cap : Nat} (h : ¬ 100 < C.length) (h2 : msF C = 0) (ho : OwnR .u8 5 w' w.heap.size ao cap (pkO C)) (hb : Below w.heap.size w w') : PkA C w (.returned (.agg #[.int .i64 0, .slice ao (pkO C).length cap])) w' := by
  obtain ⟨e1, e2⟩ := pkB_yes h h2
  exact ⟨ao, cap, by rw [e1, e2], by rw [e2]; exact ho, hb⟩
theorem rb_at {w : World} {b : Nat} {v0 v1 : Value} {T : TypeId} (h : w.heap[b]? = some (.cells #[v0, v1] T)) : Rb w b v0 v1 := by
  have hB : b < w.heap.size := (Array.getElem?_eq_some_iff.1 h).1
  exact ⟨by simp [World.cell?, h], by simp [World.cell?, h], by simp [World.frozen?, h], by simp [World.frozen?, h], hB⟩
theorem kalP (w : World) (o : Obj) : Below w.heap.size w (w.alloc o) := (Below.refl _ _).alloc (Nat.le_refl _) o
theorem rb_newP (w : World) (v0 v1 : Value) (T : TypeId) : Rb (w.alloc (.cells #[v0, v1] T)) w.heap.size v0 v1 := ⟨by simp, by simp, by simp, by simp, by simp⟩

set_option maxRecDepth 100000 in
set_option maxHeartbeats 2000000 in
theorem iPack_any (lo hi : Nat) (so : Option Addr) (sc : Nat) (L : List Mg) (w : World) (hL : Ms w lo hi so L) (hs : hi ≤ w.heap.size) (hn : L.length + mzs L ≤ 1048576) :
    Calls Try.prog 24 #[.slice so L.length sc] w fun e w' => PkA (L.map Mg.ct) w e w' := by
  have hn' : (L.length : Int) ≤ 1048576 := by omega
  have HL := hideP hL
  have hCl : (L.map Mg.ct).length = L.length := by simp
  have PN := hideP (fun c w' (hc : pkC (L.map Mg.ct) = c) h hb => pkA_no (w := w) (w' := w') hc h hb)
  have PY := hideP (fun w' ao cap h h2 ho hb => pkA_yes (C := L.map Mg.ct) (w := w) (w' := w') (ao := ao) (cap := cap) h h2 ho hb)
  have PM := hideP (fun h => pkC_many (C := L.map Mg.ct) h)
  have PF := hideP (fun h => pkC_few (C := L.map Mg.ct) h)
  obtain ⟨P, hP⟩ : ∃ P, PkA (L.map Mg.ct) w = P := ⟨_, rfl⟩
  rw [hP] at PN PY ⊢
  have HCl := hideP hCl
  clear hL hP hCl
  by_cases hmany : (100 : Int) < (L.length : Int)
  · have PN' := hideP (fun w' hb => PN.out 2 w' (PM.out (by rw [HCl.out]; omega)) (by omega) hb)
    clear PN PY PM PF HL
    go_enter Try.func24, Try.ntmps24
    go_wp2
    refine bodyPost_ret (v := .agg #[.int .i64 2, .slice none 0 0]) (by simp [results, Try.results24, go_sem, *]) rfl (PN'.out _ ?_)
    go_grown
  have HQ := hideP (PF.out (by rw [HCl.out]; omega))
  have HFew := hideP (show ¬ 100 < (L.map Mg.ct).length by rw [HCl.out]; omega)
  have hfl : L.length ≤ 100 := by omega
  clear PM PF
  go_enter Try.func24, Try.ntmps24
  go_wp2
  have K0 : Hid (Below w.heap.size w (w.alloc (.cells #[.int .i64 0, .slice none 0 0] 43))) := hideP (kalP _ _)
  have Z0 := hideP (rb_newP w (.int .i64 0) (.slice none 0 0) 43)
  have n0 : (w.alloc (.cells #[.int .i64 0, .slice none 0 0] 43)).heap.size = w.heap.size + 1 := by simp
  generalize w.alloc (.cells #[.int .i64 0, .slice none 0 0] 43) = W at *
  go_loopw [3, 13] (fun q i wr => ∃ (X Y : List Mg) (ao : Option Addr) (cap : Nat), X ++ Y = L ∧ i = .int .i64 (X.length : Nat) ∧ msF (X.map Mg.ct) = 0 ∧ q = .slice ao (pkO (X.map Mg.ct)).length cap ∧ OwnR .u8 5 wr (w.heap.size + 1) ao cap (pkO (X.map Mg.ct)) ∧ Below w.heap.size w wr ∧ Rb wr w.heap.size (.int .i64 0) (.slice none 0 0)) (fun _ i _ => L.length - (intOf i).toNat)
  case atStart => exact ⟨[], L, none, 0, rfl, rfl, rfl, rfl, OwnR.nil _ _ _ _, K0.out, Z0.out⟩
  case round =>
    obtain ⟨X, Y, ao0, cap0, hXY, rfl, hF, rfl, hO, kb, hZ⟩ := hrel
    have hlen : X.length + Y.length = L.length := by rw [← hXY]; simp
    have hpl := pkO_len (X.map Mg.ct) hF
    rw [List.length_map] at hpl
    have hz := hZ.lt
    have HF := hideP hF
    have HB := hideP kb
    have HO := hideP hO
    have HZ := hideP hZ
    clear hF kb K0 Z0 hO hZ
    cases Y with
    | cons r Y =>
      have hlt : (X.length : Int) < (L.length : Int) := by simp at hlen; omega
      have hsz : r.b.L.length ≤ mzs L := mzs_mem (m := r) (by rw [← hXY]; simp)
      have h0 := HL.out
      rw [← hXY] at h0
      obtain ⟨g, o, rfl, hg, hc, hon⟩ := Ms.at h0
      obtain ⟨a0, a1⟩ := hc.keep HB.out (by omega)
      have hgl : g < wr.heap.size := by omega
      have HXY := hideP hXY
      have HR := hideP (Row.keep hon HB.out hs)
      clear h0 hc hXY hon HL
      obtain ⟨k, ao, cap, gb, D⟩ := r
      simp only at a0 a1 hsz HR
      have hD : D.length ≤ 1048576 := by omega
      have hMl : (pkO (X.map Mg.ct)).length ≤ 4000 := by omega
      obtain ⟨M, hM⟩ : ∃ M, pkO (X.map Mg.ct) = M := ⟨_, rfl⟩
      rw [hM] at HO hMl ⊢
      have HM := hideP hM
      clear hM hpl
      go_wp2_with fail
      clear a0 a1
      have ka := kalP wr (.cells #[.int .i64 k, .slice ao D.length cap] 28)
      have HB1 := hideP (HB.out.trans (ka.mono (by omega)))
      have HO1 := hideP (HO.out.keep ka)
      have HZ1 := hideP (HZ.out.keep ka hz)
      have HR1 := hideP (HR.out.keep ka (by omega))
      have HM1 := hideP (heap_alloc_new wr (.cells #[.int .i64 k, .slice ao D.length cap] 28))
      have hz1 : wr.heap.size < (wr.alloc (.cells #[.int .i64 k, .slice ao D.length cap] 28)).heap.size := by simp
      clear ka HB HO HZ HR
      generalize wr.alloc (.cells #[.int .i64 k, .slice ao D.length cap] 28) = w1 at *
      refine Calls.mono (iMF_any k ao cap D w1 hD) ?_
      rintro e w2 ⟨rfl, k2⟩
      have HB2 := hideP (HB1.out.trans (k2.mono (by omega)))
      have HO2 := hideP (HO1.out.keep k2)
      have HZ2 := hideP (HZ1.out.keep k2 (by omega))
      have HR2 := hideP (HR1.out.keep k2 (by omega))
      have HM2 := hideP ((k2.block wr.heap.size hz1).trans HM1.out)
      have hz2 := k2.size
      clear k2 HB1 HO1 HZ1 HR1 HM1
      by_cases hc : mF (k, D) = 0
      · have HC := hideP hc
        obtain ⟨hd30, hk1, hk7⟩ := mF_len hc
        simp only at hd30 hk1 hk7
        rw [hc]
        clear hc
        have X2 := rb_at HM2.out
        obtain ⟨p0, p1, p2, p3, p4⟩ := X2
        have hd30' : (D.length : Int) ≤ 30 := by omega
        go_wp2_with fail
        clear p0 p1 p2 p3
        have ka := kalP w2 (.cells #[.int .i64 (1 + (D.length : Int)), .int .i64 k] 2)
        have HB3 := hideP (HB2.out.trans (ka.mono (by omega)))
        have HO3 := hideP (HO2.out.keep ka)
        have HZ3 := hideP (HZ2.out.keep ka (by omega))
        have HR3 := hideP (HR2.out.keep ka (by omega))
        have HM3 := hideP ((ka.block wr.heap.size p4).trans HM2.out)
        have HN3 := hideP (heap_alloc_new w2 (.cells #[.int .i64 (1 + (D.length : Int)), .int .i64 k] 2))
        have hz3 : w2.heap.size < (w2.alloc (.cells #[.int .i64 (1 + (D.length : Int)), .int .i64 k] 2)).heap.size := by simp
        clear ka HB2 HO2 HZ2 HR2 HM2
        generalize w2.alloc (.cells #[.int .i64 (1 + (D.length : Int)), .int .i64 k] 2) = w3 at *
        refine Calls.mono (tell_two w2.heap.size (w.heap.size + 1) ao0 cap0 M (1 + (D.length : Int)) k w3 HO3.out HN3.out (by omega) (by omega) (by omega) (by omega)) ?_
        rintro e w4 ⟨ao4, cap4, rfl, O4, k4, N4⟩
        have HB4 := hideP (HB3.out.trans (k4.mono (by omega)))
        have HO4 := hideP O4
        have HZ4 := hideP (HZ3.out.keep k4 (by omega))
        have HR4 := hideP (HR3.out.keep k4 (by omega))
        have HM4 := hideP (N4.msg HM3.out)
        have hz4 := N4.size
        have hl4 : (M ++ [1 + (D.length : Int), k]).length ≤ 4002 := by simp; omega
        have HPK : Hid (pkO ((X ++ [(⟨k, ⟨ao, cap, gb, D⟩⟩ : Mg)]).map Mg.ct) = (M ++ [1 + (D.length : Int), k]) ++ D) := hideP (by
          rw [List.map_append, pkO_app, HM.out, List.append_assoc]
          simp [pkO, pk1, Mg.ct])
        clear O4 k4 N4 HB3 HO3 HZ3 HR3 HM3 HN3
        obtain ⟨M2, hM2⟩ : ∃ M2, M ++ [1 + (D.length : Int), k] = M2 := ⟨_, rfl⟩
        rw [hM2] at HO4 hl4 HPK ⊢
        clear hM2
        obtain ⟨p0, p1, p2, p3, p4'⟩ := rb_at HM4.out
        go_wp2_with (first | (at_builtin; refine wpList_appG rfl _ _ rfl (w.heap.size + 1) ao4 cap4 M2 rfl HO4.out ao cap D rfl HR4.out.src (by omega) (by omega) ?_; intro ao5 cap5 w5 O5 G5 K5; refine Hid.out ?_) | go_in)
        have HO5 := hideP O5
        have HB5 := hideP (HB4.out.trans (K5.mono (by omega)))
        have HZ5 := hideP (HZ4.out.keep K5 (by omega))
        clear O5 G5 K5 p0 p1 p2 p3 p4' p4
        refine hideP ?_
        go_wp2
        go_roundw
        case rel =>
          exact ⟨X ++ [⟨k, ⟨ao, cap, gb, D⟩⟩], Y, ao5, cap5, mid_in HXY.out, by simp, by rw [List.map_append]; exact msF_snoc HF.out HC.out, by rw [HPK.out]; simp, by rw [HPK.out]; exact HO5.out, HB5.out, HZ5.out⟩
        case measure => simp [intOf]; omega
      · obtain ⟨c, hcc⟩ : ∃ c, mF (k, D) = c := ⟨_, rfl⟩
        have hcn : (c != 0) = true := by rw [← hcc]; simpa using hc
        have HE : Hid (msF (L.map Mg.ct) = c) := hideP (by
          rw [← HXY.out, List.map_append, List.map_cons]
          exact (msF_bad HF.out hc).trans hcc)
        have PN' := hideP (fun w' hb => PN.out c w' (HQ.out.trans HE.out) (by rw [← hcc]; exact hc) hb)
        rw [hcc]
        clear hc hcc PN PY
        obtain ⟨p0, p1, p2, p3, p4⟩ := HZ2.out
        go_wp2
        refine bodyPost_ret (v := .agg #[.int .i64 c, .slice none 0 0]) (by simp [results, Try.results24, go_sem, *]) rfl (PN'.out _ ?_)
        repeat' (first | (with_reducible exact HB2.out) | (with_reducible refine Below.setCell ?_ ?_ _) | go_size)
    | nil =>
      have hX : X = L := by simpa using hXY
      subst hX
      have PY' := hideP (fun w' ho hb => PY.out w' ao0 cap0 HFew.out HF.out ho hb)
      obtain ⟨B, hBk⟩ : ∃ B, pkO (X.map Mg.ct) = B := ⟨_, rfl⟩
      rw [hBk] at HO PY' ⊢
      clear hXY HL PN PY hBk hpl
      obtain ⟨p0, p1, p2, p3, p4⟩ := HZ.out
      go_wp2
      refine bodyPost_ret (v := .agg #[.int .i64 0, .slice ao0 B.length cap0]) (by simp [results, Try.results24, go_sem, *]) rfl (PY'.out _ ?_ ?_)
      · refine OwnR.le (base := w.heap.size + 1) ?_ (by omega)
        repeat' (first | (with_reducible exact HO.out) | (with_reducible refine OwnR.set ?_ _ _ (by dsimp only; omega)))
      · repeat' (first | (with_reducible exact HB.out) | (with_reducible refine Below.setCell ?_ ?_ _) | go_size)
end Go.Proofs.Ytefkngpceeclhaa
