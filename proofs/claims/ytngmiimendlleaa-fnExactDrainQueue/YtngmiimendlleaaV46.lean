/- The model's drain. -/
import Derived.Test.YtngmiimendlleaaV45
import Derived.Test.YtngmiimendlleaaV40
namespace Go.Proofs.Ytngmiimendlleaa
open Go.RowKit
set_option linter.unusedVariables false
attribute [local go_sem] growUpon growAt

set_option maxHeartbeats 400000 in
theorem min_q (a b : Int) (w : World) : Calls Try.prog 30 #[.int .i64 a, .int .i64 b] w fun e w' => e = .returned (.int .i64 (mnQ a b)) ∧ w' = w := by
  have hm := hideP (mnQ_eq a b)
  by_cases h : a < b
  all_goals
    go_enter Try.func30, Try.ntmps30
    go_wp2
    go_returns
    exact ⟨congrArg (fun n => Ending.returned (.int .i64 n)) (by have := hm.out; omega), rfl⟩

theorem Ms.from {w : World} {lo hi : Nat} {s : Option Addr} {M : List Mg} (h : Ms w lo hi s M) (c k : Nat) (hc : M.length ≤ c) : Ms w lo hi (oFrom s c k) (M.drop k) := by
  by_cases hn : M = []
  · exact .inl (by rw [hn]; simp)
  · have h0 := h
    rcases h with e | ⟨g, o, rfl, _⟩
    · exact absurd e hn
    · have hd := Ms.drop h0 k hc
      unfold oFrom
      by_cases e : c = k
      · rw [if_pos e] at hd ⊢; exact hd
      · rw [if_neg e] at hd ⊢; simpa [add_none] using hd
theorem QM.two {w1 w2 : World} {base : Nat} {s1 s2 : Option Addr} {c1 c2 : Nat} {L1 L2 : List Mg} (h1 : Lin w1 base s1 c1 L1) (hb : base ≤ w1.heap.size) (k : Below w1.heap.size w1 w2) (h2 : Lin w2 w1.heap.size s2 c2 L2) : QM w2 base w2.heap.size s1 L1 s2 L2 := by
  have S1 := h1.own.sp.keep k (Nat.le_refl _)
  exact ⟨Nat.le_trans hb k.size, Nat.le_refl _, by rw [List.map_append]; exact (h1.bods.keep k (Nat.le_refl _)).join h2.bods hb k.size, S1.wide (Nat.le_refl _) k.size, h2.own.sp.wide hb (Nat.le_refl _), SpM.apart S1 h2.own.sp⟩
theorem drop_len_ct {M : List Mg} {k : Nat} : (M.drop k).map Mg.ct = (M.map Mg.ct).drop k := List.map_drop
theorem mzs_take_drop (M : List Mg) (k : Nat) : mzs (M.take k) + mzs (M.drop k) = mzs M := by rw [← mzs_app, List.take_append_drop]

set_option maxRecDepth 100000 in
set_option maxHeartbeats 2000000 in
theorem l6Drain_any (lo hi b o : Nat) (s : Option Addr) (c : Nat) (M : List Mg) (n : Int) (k m : Nat) (w : World) (h0 : w.cell? ⟨b, o, none⟩ = some (.slice s M.length c)) (hf : w.frozen? ⟨b, o, none⟩ = false) (hbl : b < w.heap.size) (hL : Ms w lo hi s M) (hs : hi ≤ w.heap.size) (hsa : ∀ a, s = some a → a.add 0 = a) (hc : M.length ≤ c) (hsz : M.length + mzs M ≤ 1000) (hm : M.length = k + m) (hn : mnQ n (M.length : Int) = (k : Int)) :
    Calls Try.prog 17 #[.pointer (some ⟨b, o, none⟩), .int .i64 n] w fun e w' => ∃ s1 c1 s2 c2 L1 L2 w3, e = .returned (.slice s1 k c1) ∧ L1.map Mg.ct = (M.map Mg.ct).take k ∧ L2.map Mg.ct = (M.map Mg.ct).drop k ∧ w' = w3.setCell ⟨b, o, none⟩ (.slice s2 m c2) ∧ QM w3 w.heap.size w3.heap.size s1 L1 s2 L2 ∧ Below w.heap.size w w3 := by
  have hM' : (M.length : Int) ≤ 1000 := by omega
  have hk' : (k : Int) ≤ (M.length : Int) := by omega
  have hkc : (k : Int) ≤ (c : Int) := by omega
  have hmk : M.length - k = m := by omega
  have e1 : (M.take k).length = k := by simp; omega
  have e2 : (M.drop k).length = m := by simp; omega
  have hzz := mzs_take_drop M k
  have hup : ∀ w1, (Instr.slice 26 (.slice s M.length c) none (some (.int .i64 (k : Int))) none).run Try.prog w1 = .ok (.slice s k c) w1 := fun w1 => by
    rw [smg_upto s hsa _ _ _ _ (by omega) hkc]; simp
  have hfr : ∀ w1, (Instr.slice 26 (.slice s M.length c) (some (.int .i64 (k : Int))) none none).run Try.prog w1 = .ok (.slice (oFrom s c k) m (c - k)) w1 := fun w1 => by
    rw [smg_from s _ _ _ _ (by omega) hk']; simp [hmk]
  have MS1 := hideP (fun w1 (kk : Below w.heap.size w w1) => msgs_any lo hi s c (M.take k) w1 ((hL.take k).keep kk hs) (by have := kk.size; omega) (by omega))
  have MS2 := hideP (fun w1 (kk : Below w.heap.size w w1) => msgs_any lo hi (oFrom s c k) (c - k) (M.drop k) w1 ((hL.from c k hc).keep kk hs) (by have := kk.size; omega) (by omega))
  rw [e1] at MS1
  rw [e2] at MS2
  clear hL hs hsa hc hm hzz hmk
  go_enter Try.func17, Try.ntmps17
  go_wp2_with fail
  refine Calls.mono (min_q n M.length w) ?_
  rintro e w1 ⟨rfl, rfl⟩
  rw [hn]
  go_wp2_with fail
  refine Calls.mono (MS1.out w1 (Below.refl _ _)) ?_
  rintro e w2 ⟨s1, c1, L1, rfl, h1, N1, k1⟩
  have H0 := (k1.cell (p := ⟨b, o, none⟩) hbl).trans h0
  have HF := (k1.frozen (p := ⟨b, o, none⟩) hbl).trans hf
  have hl1 : L1.length = k := by rw [← e1]; exact len_ct h1
  have N1' := hideP N1
  have K1 := hideP k1
  have H1 := hideP h1
  have n1 := k1.size
  have hbl1 : b < w2.heap.size := by omega
  clear N1 k1 h1 h0 hf MS1
  rw [hl1]
  go_wp2_with fail
  refine Calls.mono (MS2.out w2 K1.out) ?_
  rintro e w3 ⟨s2, c2, L2, rfl, h2, N2, k2⟩
  have HF2 := (k2.frozen (p := ⟨b, o, none⟩) hbl1).trans HF
  have H02 := (k2.cell (p := ⟨b, o, none⟩) hbl1).trans H0
  have hl2 : L2.length = m := by rw [← e2]; exact len_ct h2
  have K2 := hideP (K1.out.trans (k2.mono n1))
  have Q2 := hideP (QM.two N1'.out n1 k2 N2)
  have H2 := hideP h2
  have hbl2 : b < w3.heap.size := by have := k2.size; omega
  clear N2 k2 h2 H0 HF MS2 N1'
  rw [hl2]
  go_wp2
  go_returns
  exact ⟨s1, c1, s2, c2, L1, L2, w3, rfl, by rw [H1.out, List.map_take], by rw [H2.out, List.map_drop], rfl, Q2.out, K2.out⟩
end Go.Proofs.Ytngmiimendlleaa
