/- Messages copied by the model; the model's push. -/
import Derived.Test.YtngmiimendlleaaV34
import Derived.Test.YtngmiimendlleaaV36
namespace Go.Proofs.Ytngmiimendlleaa
open Go.RowKit
set_option linter.unusedVariables false
attribute [local go_sem] growUpon growAt

theorem sB_new (lo hi : Nat) (ao : Option Addr) (ca : Nat) (D : List Int) (w : World) (hR : Row .u8 w lo hi ao D) (hs : hi ≤ w.heap.size) (hl : D.length ≤ 1048576) :
    Calls Try.prog 39 #[.slice ao D.length ca] w fun e w' => ∃ b : Bd, e = .returned (.slice b.ao D.length b.cap) ∧ NewB w w' D b ∧ Below w.heap.size w w' :=
  (sBytes_any lo hi ao ca D w hR hs (by omega)).mono fun e w' ⟨ao', cap', he, ho, hb⟩ => by
    obtain ⟨g, hg⟩ := NewB.of_own ho
    exact ⟨_, he, hg, hb⟩

set_option maxRecDepth 100000 in
set_option maxHeartbeats 2000000 in
theorem msgs_any (lo hi : Nat) (so : Option Addr) (sc : Nat) (L : List Mg) (w : World) (hL : Ms w lo hi so L) (hs : hi ≤ w.heap.size) (hn : L.length + mzs L ≤ 1048576) :
    Calls Try.prog 29 #[.slice so L.length sc] w fun e w' => ∃ (s : Option Addr) (c : Nat) (M : List Mg), e = .returned (.slice s M.length c) ∧ M.map Mg.ct = L.map Mg.ct ∧ Lin w' w.heap.size s c M ∧ Below w.heap.size w w' := by
  have hn' : (L.length : Int) ≤ 1048576 := by omega
  have HL := hideP hL
  clear hL
  go_enter Try.func29, Try.ntmps29
  go_wp2
  have kW : Hid (Below w.heap.size w (w.alloc (.cells #[] 52))) := hideP (kal3 _ _)
  have LW : Hid (Lin (w.alloc (.cells #[] 52)) w.heap.size (some ⟨w.heap.size, 0, none⟩) 0 []) := hideP ⟨OwnM.lit _ _ (Nat.le_refl _), Bods.nil _ _ _⟩
  generalize w.alloc (.cells #[] 52) = W at *
  go_loopw [3, 4] (fun q i wr => ∃ (X Y M : List Mg) (s : Option Addr) (c : Nat), X ++ Y = L ∧ M.map Mg.ct = X.map Mg.ct ∧ i = .int .i64 (X.length : Nat) ∧ q = .slice s M.length c ∧ Below w.heap.size w wr ∧ Lin wr w.heap.size s c M) (fun _ i _ => L.length - (intOf i).toNat)
  case atStart => exact ⟨[], L, [], some ⟨w.heap.size, 0, none⟩, 0, rfl, rfl, rfl, rfl, kW.out, LW.out⟩
  case round =>
    clear kW LW
    obtain ⟨X, Y, M, s, c, hXY, hMX, rfl, rfl, kb, LN⟩ := hrel
    have hlen : X.length + Y.length = L.length := by rw [← hXY]; simp
    have HML := hideP (len_ct hMX)
    have hMn : M.length ≤ 1048576 := by have := HML.out; omega
    have hz := kb.size
    have HB := hideP kb
    have HN := hideP LN
    have HMX := hideP hMX
    clear kb LN hMX
    cases Y with
    | cons r Y =>
      have hlt : (X.length : Int) < (L.length : Int) := by simp at hlen; omega
      have hsz : r.b.L.length ≤ mzs L := mzs_mem (m := r) (by rw [← hXY]; simp)
      have h0 := HL.out
      rw [← hXY] at h0
      obtain ⟨g, o, rfl, hg, hc, hon⟩ := Ms.at h0
      obtain ⟨a0, a1⟩ := hc.keep HB.out (by omega)
      have hgl : g < wr.heap.size := by omega
      have HXY := hideP hXY
      have HR := hideP (Row.keep hon HB.out hs)
      clear h0 hc hXY hon HL
      obtain ⟨k, ao, cap, gb, D⟩ := r
      simp only at a0 a1 hsz HR
      have CP := hideP (fun w2 (kk : Below wr.heap.size wr w2) => sB_new lo hi ao cap D w2 (HR.out.keep kk (by omega)) (by have := kk.size; omega) (by omega))
      go_wp2_with fail
      refine wp_region_mades 11 3 (by kernel_rfl) (by kernel_rfl) ?_
      simp only [List.take_succ_cons, List.take_zero, List.drop_succ_cons, List.drop_zero]
      repeat (refine grow_step (by rfl) ?_; apply Exists.intro; refine ⟨fun w1 k1 => ?_, fun K hK => ?_⟩; (focus (have hc := Kept.cell k1; go_simp; first | done | rfl)); (go_simp; refine hK _ ?_; clear hK K))
      refine grow_nil ?_
      refine mades_step (by rfl) fun w1 k1 => ?_
      have kk1 := Kept.below k1
      refine made_calls (by go_simp; first | done | rfl) ((CP.out w1 kk1).mono ?_)
      rintro e w2 ⟨b, rfl, N2, k2⟩
      refine ⟨_, rfl, k2, fun K hK => ?_⟩
      go_simp
      refine hK _ ?_
      clear hK K
      refine mades_step (by rfl) fun w3 k3 => ?_
      have kk3 := Kept.below k3
      refine made_value (v := .agg #[.int .i64 k, .slice b.ao D.length b.cap]) (by go_simp; first | done | rfl) fun K hK => ?_
      go_simp
      refine hK _ ?_
      clear hK K
      refine mades_step (by rfl) fun w4 k4 => ?_
      have kk4 := Kept.below k4
      refine made_alloc (b := .cells #[.int .i64 k, .slice b.ao D.length b.cap] 52) (by go_simp; first | done | rfl) fun K hK => ?_
      go_simp
      refine hK _ ?_
      clear hK K
      refine mades_nil fun w5 k5 => ?_
      have kk5 := Kept.below k5
      have hbl := N2.le
      have ka := kal3 w4 (.cells #[.int .i64 k, .slice b.ao D.length b.cap] 52)
      have N5 := (((N2.keep kk3).keep kk4).keep ka).keep kk5
      have K45 : Below w4.heap.size w4 w5 := ka.trans (kk5.mono ka.size)
      have K35 : Below w3.heap.size w3 w5 := kk4.trans (K45.mono kk4.size)
      have K25 : Below w2.heap.size w2 w5 := kk3.trans (K35.mono kk3.size)
      have K15 : Below w1.heap.size w1 w5 := k2.trans (K25.mono k2.size)
      have C5 : Hid (Mg.cells w5 w4.heap.size 0 ⟨k, b⟩) := hideP (by
        have h := (rb_new w4 (.int .i64 k) (.slice b.ao D.length b.cap) 52).keep kk5 (by simp)
        exact ⟨h.c0, by rw [hbl]; exact h.c1⟩)
      obtain ⟨O5, B5⟩ := HN.out.more (k := k) kk1 (by omega) N5 K15
      have HO5 := hideP O5
      have HB5 := hideP B5
      have n5 : wr.heap.size ≤ w5.heap.size := by have := kk1.size; have := K15.size; omega
      have HK5 : Hid (Below w.heap.size w w5) := hideP (HB.out.trans ((kk1.trans (K15.mono kk1.size)).mono hz))
      have HCT : Hid (Mg.ct ⟨k, b⟩ = (k, D)) := hideP (by simp [Mg.ct, hbl])
      clear k1 kk1 k2 N2 k3 kk3 k4 kk4 k5 kk5 ka N5 K45 K35 K25 K15 O5 B5 hbl CP a0 a1 HB HN HR
      go_wp2_with (first | (at_builtin; go_loud (refine wpList_appM rfl _ _ rfl w.heap.size s c M rfl HO5.out w4.heap.size 1 ⟨k, b⟩ rfl C5.out (by omega) (by omega) ?_; intro s6 c6 w6 O6 G6 K6; refine Hid.out ?_)) | go_in)
      have LN6 := hideP (Lin.pushed HO5.out HB5.out O6 G6)
      have KB6 := hideP (HK5.out.trans K6)
      clear O6 G6 K6 HO5 HB5 C5 HK5
      refine hideP ?_
      go_wp2
      go_roundw
      case rel =>
        exact ⟨X ++ [⟨k, ao, cap, gb, D⟩], Y, M ++ [⟨k, b⟩], s6, c6, mid_in HXY.out, by rw [List.map_append, List.map_append, HMX.out]; simp only [List.map_cons, HCT.out]; rfl, by simp, by simp, KB6.out, LN6.out⟩
      case measure => simp [intOf]; omega
    | nil =>
      have hX : X = L := by simpa using hXY
      subst hX
      clear hXY HL HML
      go_wp2
      go_returns
      exact ⟨s, c, M, rfl, HMX.out, HN.out, HB.out⟩
end Go.Proofs.Ytngmiimendlleaa
