/- The program's line: made of a queue, pushed to. -/
import Derived.Test.YtngmiimendlleaaV21
import Derived.Test.YtngmiimendlleaaV25
namespace Go.Proofs.Ytngmiimendlleaa
open Go.RowKit
set_option linter.unusedVariables false
attribute [local go_sem] growUpon growAt
theorem kal3 (w : World) (o : Obj) : Below w.heap.size w (w.alloc o) := (Below.refl _ _).alloc (Nat.le_refl _) o

theorem rb_new (w : World) (v0 v1 : Value) (T : TypeId) : Rb (w.alloc (.cells #[v0, v1] T)) w.heap.size v0 v1 := ⟨by simp, by simp, by simp, by simp, by simp⟩
theorem rb_new3 (w : World) (o o2 : Obj) (v0 v1 : Value) (T : TypeId) : Rb (((w.alloc o).alloc o2).alloc (.cells #[v0, v1] T)) (w.heap.size + 1 + 1) v0 v1 := by
  have h := rb_new ((w.alloc o).alloc o2) v0 v1 T
  rwa [show ((w.alloc o).alloc o2).heap.size = w.heap.size + 1 + 1 by simp] at h
theorem rb_new2 (w : World) (o o2 : Obj) (v0 v1 : Value) (T : TypeId) : Rb (((w.alloc o).alloc (.cells #[v0, v1] T)).alloc o2) (w.heap.size + 1) v0 v1 := by
  have h := (rb_new (w.alloc o) v0 v1 T).keep (kal3 _ o2) (by simp)
  rwa [show (w.alloc o).heap.size = w.heap.size + 1 by simp] at h

set_option maxRecDepth 100000 in
set_option maxHeartbeats 2000000 in
theorem line_any (lo hi : Nat) (so : Option Addr) (sc : Nat) (L : List Mg) (v : Bool) (w : World) (hL : Ms w lo hi so L) (hs : hi ≤ w.heap.size) (hn : L.length + mzs L ≤ 1048576) :
    Calls Try.prog 20 #[.agg #[.slice so L.length sc, .bool v]] w fun e w' => ∃ (s : Option Addr) (c : Nat) (M : List Mg), e = .returned (.agg #[.slice s M.length c, .bool v]) ∧ M.map Mg.ct = L.map Mg.ct ∧ Lin w' w.heap.size s c M ∧ Below w.heap.size w w' := by
  have hn' : (L.length : Int) ≤ 1048576 := by omega
  have HL := hideP hL
  clear hL
  go_enter Try.func20, Try.ntmps20
  go_wp2
  have X0 := hideP (rb_new3 w (.cells #[.slice so L.length sc, .bool v] 28) (.cells #[.slice none 0 0, .bool false] 47) (.slice none 0 0) (.bool v) 47)
  have Y0 := hideP (rb_new2 w (.cells #[.slice so L.length sc, .bool v] 28) (.cells #[.slice none 0 0, .bool v] 47) (.slice none 0 0) (.bool false) 47)
  have kW : Hid (Below w.heap.size w (((w.alloc (.cells #[.slice so L.length sc, .bool v] 28)).alloc (.cells #[.slice none 0 0, .bool false] 47)).alloc (.cells #[.slice none 0 0, .bool v] 47))) := hideP ((((Below.refl _ _).alloc (Nat.le_refl _) _).alloc (by simp) _).alloc (by simp; omega) _)
  have nW : Hid ((((w.alloc (.cells #[.slice so L.length sc, .bool v] 28)).alloc (.cells #[.slice none 0 0, .bool false] 47)).alloc (.cells #[.slice none 0 0, .bool v] 47)).heap.size = w.heap.size + 1 + 1 + 1) := hideP (by simp)
  generalize (((w.alloc (.cells #[.slice so L.length sc, .bool v] 28)).alloc (.cells #[.slice none 0 0, .bool false] 47)).alloc (.cells #[.slice none 0 0, .bool v] 47)) = W at *
  go_loopw [12] (fun i wr => ∃ (X Y M : List Mg) (s : Option Addr) (c : Nat), X ++ Y = L ∧ M.map Mg.ct = X.map Mg.ct ∧ i = .int .i64 (X.length : Nat) ∧ Below w.heap.size w wr ∧ Rb wr (w.heap.size + 1 + 1) (.slice s M.length c) (.bool v) ∧ Rb wr (w.heap.size + 1) (.slice none 0 0) (.bool false) ∧ Lin wr (w.heap.size + 1 + 1 + 1) s c M) (fun i _ => L.length - (intOf i).toNat)
  case atStart => exact ⟨[], L, [], none, 0, rfl, rfl, rfl, kW.out, X0.out, Y0.out, Lin.nil _ _⟩
  case round =>
    clear X0 Y0 kW nW
    obtain ⟨X, Y, M, s, c, hXY, hMX, rfl, kb, RX, RY, LN⟩ := hrel
    have hlen : X.length + Y.length = L.length := by rw [← hXY]; simp
    have HML := hideP (len_ct hMX)
    have hMn : M.length ≤ 1048576 := by have := HML.out; omega
    have hz := RX.lt
    have HB := hideP kb
    have HX := hideP RX
    have HY := hideP RY
    have HN := hideP LN
    have HMX := hideP hMX
    clear kb RX RY LN hMX
    cases Y with
    | cons r Y =>
      have hlt : (X.length : Int) < (L.length : Int) := by simp at hlen; omega
      have hsz : r.b.L.length ≤ mzs L := mzs_mem (m := r) (by rw [← hXY]; simp)
      have h0 := HL.out
      rw [← hXY] at h0
      obtain ⟨g, o, rfl, hg, hc, hon⟩ := Ms.at h0
      obtain ⟨a0, a1⟩ := hc.keep HB.out (by omega)
      have hgl : g < wr.heap.size := by omega
      have HXY := hideP hXY
      have HR := hideP (Row.keep hon HB.out hs)
      clear h0 hc hXY hon HL
      obtain ⟨k, ao, cap, gb, D⟩ := r
      simp only at a0 a1 hsz HR
      go_wp2
      clear a0 a1
      have ka := kal3 wr (.cells #[.int .i64 k, .slice ao D.length cap] 52)
      have Z1 := hideP (rb_new wr (.int .i64 k) (.slice ao D.length cap) 52)
      have HB1 := hideP (HB.out.trans (ka.mono (by omega)))
      have HX1 := hideP (HX.out.keep ka hz)
      have HY1 := hideP (HY.out.keep ka (by omega))
      have HN1 := hideP (HN.out.keep ka)
      have HR1 := hideP (HR.out.keep ka (by omega))
      have hz1 := ka.size
      clear ka HB HX HY HN HR
      generalize wr.alloc (.cells #[.int .i64 k, .slice ao D.length cap] 52) = w1 at *
      have CP := hideP (fun w2 (kk : Below w1.heap.size w1 w2) => copyM_any lo hi k ao cap D w2 (HR1.out.keep kk (by omega)) (by have := kk.size; omega) (by omega))
      obtain ⟨p0, p1, p2, p3, p4⟩ := HX1.out
      obtain ⟨q0, q1, q2, q3, q4⟩ := Z1.out
      refine wp_region_made2 3 (by kernel_rfl) (by kernel_rfl) ?_
      simp only [List.take_succ_cons, List.take_zero, List.drop_succ_cons, List.drop_zero]
      repeat (refine grow_step (by rfl) ?_; apply Exists.intro; refine ⟨fun w1 k1 => ?_, fun K hK => ?_⟩; (focus (have hc := Kept.cell k1; go_simp; first | done | rfl)); (go_simp; refine hK _ ?_; clear hK K))
      refine grow_nil ?_
      intro o1 o2 ho1 ho2
      cases ho1
      cases ho2
      refine ⟨by rfl, fun w2 k2 => ?_⟩
      have kk2 := Kept.below k2
      refine made_call (by go_simp; first | done | rfl) ((CP.out w2 kk2).mono ?_)
      rintro e w3 ⟨b, rfl, N3, k3⟩
      refine ⟨_, rfl, k3, by rfl, fun w4 k4 => ?_⟩
      have kk4 := Kept.below k4
      refine made_alloc (b := .cells #[.int .i64 k, .slice b.ao D.length b.cap] 52) (by go_simp; first | done | rfl) ?_
      intro w5 k5
      have kk5 := Kept.below k5
      have hbl := N3.le
      have ka := kal3 w4 (.cells #[.int .i64 k, .slice b.ao D.length b.cap] 52)
      have N5 := ((N3.keep kk4).keep ka).keep kk5
      have K45 : Below w4.heap.size w4 w5 := ka.trans (kk5.mono ka.size)
      have K35 : Below w3.heap.size w3 w5 := kk4.trans (K45.mono kk4.size)
      have K25 : Below w2.heap.size w2 w5 := k3.trans (K35.mono k3.size)
      have K15 : Below w1.heap.size w1 w5 := kk2.trans (K25.mono kk2.size)
      have C5 : Hid (Mg.cells w5 w4.heap.size 0 ⟨k, b⟩) := hideP (by
        have h := (rb_new w4 (.int .i64 k) (.slice b.ao D.length b.cap) 52).keep kk5 (by simp)
        exact ⟨h.c0, by rw [hbl]; exact h.c1⟩)
      obtain ⟨O5, B5⟩ := HN1.out.more (k := k) kk2 (by omega) N5 K25
      have HO5 := hideP O5
      have HB5 := hideP B5
      have HX5 := HX1.out.keep K15 p4
      have HY5 := hideP (HY1.out.keep K15 (by omega))
      have HK5 := hideP (HB1.out.trans (K15.mono (by omega)))
      have n5 := K15.size
      have XX := hideP HX5
      have HCT : Hid (Mg.ct ⟨k, b⟩ = (k, D)) := hideP (by simp [Mg.ct, hbl])
      clear k2 kk2 k3 N3 k4 kk4 k5 kk5 ka N5 K45 K35 K25 K15 O5 B5 p0 p1 p2 p3 p4 q0 q1 q2 q3 q4 hbl CP
      obtain ⟨p0, p1, p2, p3, p4⟩ := HX5
      go_simp
      go_wp2_with (first | (at_builtin; go_loud (refine wpList_appM rfl _ _ rfl (w.heap.size + 1 + 1 + 1) s c M rfl HO5.out w4.heap.size 1 ⟨k, b⟩ rfl C5.out (by omega) (by omega) ?_; intro s6 c6 w6 O6 G6 K6; refine Hid.out ?_)) | go_in)
      have LN6 := hideP (Lin.pushed HO5.out HB5.out O6 G6)
      have X6 := XX.out.keep K6 (by omega)
      have Y6 := hideP (HY5.out.keep K6 (by omega))
      have KB6 := hideP (HK5.out.trans (K6.mono (by omega)))
      have XX6 := hideP X6
      have n6 := K6.size
      clear O6 G6 K6 p0 p1 p2 p3 p4 XX HY5 HK5 HO5 HB5 C5
      obtain ⟨p0, p1, p2, p3, p4⟩ := X6
      refine hideP ?_
      go_wp2
      go_roundw
      case rel =>
        refine ⟨X ++ [⟨k, ao, cap, gb, D⟩], Y, M ++ [⟨k, b⟩], s6, c6, mid_in HXY.out, by rw [List.map_append, List.map_append, HMX.out]; simp only [List.map_cons, HCT.out]; rfl, by simp, ?_, ?_, ?_, LN6.out.set _ _ (by dsimp only; omega)⟩
        · exact KB6.out.setCell (p := ⟨w.heap.size + 1 + 1, 0, none⟩) (by dsimp only; omega) _
        · have h := XX6.out
          exact ⟨by rw [List.length_append]; exact cell_set_same h.c0, (cell_set_other (by omega)).trans h.c1, by simpa using h.f0, by simpa using h.f1, by simpa using h.lt⟩
        · exact Y6.out.keep (B := w.heap.size + 1 + 1) ((Below.refl _ _).setCell (p := ⟨w.heap.size + 1 + 1, 0, none⟩) (Nat.le_refl _) _) (by omega)
      case measure => simp [intOf]; omega
    | nil =>
      have hX : X = L := by simpa using hXY
      subst hX
      obtain ⟨p0, p1, p2, p3, p4⟩ := HX.out
      obtain ⟨q0, q1, q2, q3, q4⟩ := HY.out
      clear hXY HL HML
      go_wp2
      refine bodyPost_ret (v := .agg #[.slice s M.length c, .bool v]) (by simp [results, Try.results20, go_sem, *]) rfl ⟨s, c, M, rfl, HMX.out, ?_, ?_⟩
      · have hl : Lin ((wr.setCell ⟨w.heap.size + 1, 0, none⟩ (.slice s M.length c)).setCell ⟨w.heap.size + 1, 1, none⟩ (.bool v)) (w.heap.size + 1 + 1 + 1) s c M := (HN.out.set _ _ (by dsimp only; omega)).set _ _ (by dsimp only; omega)
        exact ⟨hl.own.le (by omega), hl.bods.wide (by omega) (Nat.le_refl _)⟩
      · repeat' (first | exact HB.out | (with_reducible refine Below.setCell ?_ ?_ _) | go_size)
end Go.Proofs.Ytngmiimendlleaa
