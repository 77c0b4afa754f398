/- Zeros joined to a row of numbers: append of make. Strips: what one tells; numbers within bounds; the strip that is made. FnScreens: a stack, labels and a strip that are drawn. -/
import Derived.Test.YtmmjannkfmiohaaTs5
import Derived.Lib.AppendZerosOnto
import Derived.Test.YtmmjannkfmiohaaTs14
import Derived.Test.YtmmjannkfmiohaaTs9
import Derived.Test.YtmmjannkfmiohaaTs30
import Derived.Test.YtmmjannkfmiohaaTs23
namespace Go.Proofs.Ytmmjannkfmiohaa
open Go.RowKit Go.Lib
set_option linter.unusedVariables false

theorem zeroCells_one (k : IntKind) (n : Nat) : (Builtin.zeroCells (Value.int k 0).cells n).toList = (List.replicate n 0).map (Value.int k) := by
  refine List.ext_getElem? fun j => ?_
  simp [Builtin.zeroCells, Value.cells]
  by_cases h : j < n
  · simp [h, Nat.mod_one]
  · simp [h]

theorem run_append_room_zeros {P : Program} (w : World) (t tn ty e : TypeId) (i : TypeInfo) (z : Value) (kq kn : IntKind) (ht : P.underlying t = some (.slice e)) (htn : P.underlying tn = some (.int kn)) (hi : P.info? e = some i) (hz : i.zero = some z)
    (g sLen sCap : Nat) (cur : Array Value) (hg : w.heap[g]? = some (.cells cur e (0, 0))) (k : Nat) (h0 : 0 < k) (hs : i.size = 1) (news : List Value) (hn : (Builtin.zeroCells z.cells k).toList = news) (hl : news.length = k) (h1 : ∀ u ∈ news, u.oneCell' = true)
    (h63 : (k : Int) ≤ 9223372036854775807) (h48 : k * i.bytes ≤ 281474976710656) (hroom : sLen + k ≤ sCap) (hfit : sLen + k ≤ cur.size) :
    (Builtin.append_ #[t, tn] ty #[.slice (some ⟨g, 0, none⟩) sLen sCap, .int kq k]).run P w =
      .ok (.slice (some ⟨g, 0, none⟩) (sLen + k) sCap) (w.setRow g (cur.toList.take sLen ++ news ++ cur.toList.drop (sLen + k)).toArray) := by
  have hst := run_storeCells_at P g sLen e news 0 cur w hg (by omega) h1
  simp only [Nat.add_zero, hl] at hst
  have hw : IntKind.i64.wrap (k : Int) = k := by rw [IntKind.wrap_i64]; omega
  have h48i : ¬ (281474976710656 < (k : Int) * (i.bytes : Int)) := by
    rw [← Int.natCast_mul]
    omega
  have hneg : ¬ ((k : Int) < 0) := by omega
  have hns : ¬ (k = 0) := by omega
  simp [Builtin.append_, run_underlying ht, run_underlying htn, sizeOf, typeInfo, zeroValue, hi, hz, hs, asInt, asIntOf, hw, hneg, hns, h48i, hroom, hn, Addr.add_lit, hst]

theorem run_zeros_own {k : IntKind} {T S N : TypeId} {kn : IntKind} {bytes : Nat} {w : World} (ty : TypeId)
    (hu : Try.prog.underlying S = some (.slice T)) (hN : Try.prog.underlying N = some (.int kn)) (hinf : (Try.prog.info? T).map (fun i => (i.zero, i.size, i.bytes)) = some (some (.int k 0), 1, bytes)) (hby : bytes ≤ 8)
    (base : Nat) (ao : Option Addr) (cap : Nat) (M : List Int) (hown : OwnR k T w base ao cap M) (kq : IntKind) (n : Nat) (h0 : 0 < n) (hn : M.length + n ≤ 2097152) (hbase : base ≤ w.heap.size) :
    ∃ ao' cap' w', (Builtin.append_ #[S, N] ty #[.slice ao M.length cap, .int kq n]).run Try.prog w = .ok (.slice ao' (M ++ List.replicate n 0).length cap') w' ∧ OwnR k T w' base ao' cap' (M ++ List.replicate n 0) ∧ Below base w w' := by
  obtain ⟨i0, hi0, hz0, hz1, hz2⟩ := info_parts hinf
  have hzc := zeroCells_one k n
  have hlen : (M ++ List.replicate n 0).length = M.length + n := by simp
  have hb8 : (M.length + n) * i0.bytes ≤ 2097152 * 8 := Nat.mul_le_mul hn (by omega)
  have hb9 : n * i0.bytes ≤ 2097152 * 8 := Nat.mul_le_mul (by omega) (by omega)
  have fits : ∀ old, old < M.length + n → Builtin.nextslicecap (M.length + n) old * i0.bytes ≤ 281474976710656 := fun old ho => growslice_fits ho (by omega)
  -- a new row
  have grown : ∀ (old : Nat) (olds : List Value), old < M.length + n → olds = M.map (Value.int k) → OwnR k T (w.drew.alloc (.cells (olds.toArray ++ Builtin.zeroCells (Value.int k 0).cells n ++ Builtin.zeroCells (Value.int k 0).cells (grownCap w (M.length + n) old T - (M.length + n))) T)) base (some ⟨w.heap.size, 0, none⟩) (grownCap w (M.length + n) old T) (M ++ List.replicate n 0) := by
    intro old olds ho he
    have hge := grownCap_ge w (M.length + n) old T
    have hcm : grownCap w (M.length + n) old T ≤ maxLen := grownCap_le_maxLen w (M.length + n) old T (by unfold maxLen; omega)
    subst he
    refine ⟨by simp, .inr ⟨w.heap.size, _, _, by rw [hlen], hbase, heap_alloc_new w.drew _, by rw [hlen]; exact hge, hcm, ?_, ?_⟩⟩
    · simp [size_zeroCells, Value.cells]; omega
    · simp only [Array.toList_append, hzc, List.map_append, hlen, Nat.mul_one]
      rw [show M.length + n = (M.map (Value.int k) ++ (List.replicate n 0).map (Value.int k)).length by simp]
      exact List.take_left
  rcases hown.2 with ⟨hv, hM⟩ | ⟨g, cap', cur, hv, hbg, hg, hnc, hcm, hcs, htake⟩
  · have hM0 : M = [] := List.eq_nil_of_length_eq_zero hM
    subst hM0
    cases hv
    have hr := run_append_grow_zeros (P := Try.prog) w S N ty T i0 (.int k 0) kq kn hu hN hi0 hz0 none 0 0 [] (by exact run_firstCells_none w.drew i0.size 0 0 0) n h0 (by omega) (by omega) (by omega) (by omega) (fits 0 (by simpa using h0))
    exact ⟨_, _, _, by rw [hlen]; exact hr, grown 0 [] (by simpa using h0) rfl, (Below.refl base w).drew.alloc (by simpa using hbase) _⟩
  · cases hv
    by_cases hroom : M.length + n ≤ cap
    · have hr := run_append_room_zeros (P := Try.prog) w S N ty T i0 (.int k 0) kq kn hu hN hi0 hz0 g M.length cap cur hg n h0 hz1 _ hzc (by simp) (ints_oneCell k _) (by omega) (by omega) hroom (by omega)
      refine ⟨_, _, _, by rw [hlen]; exact hr, ⟨by simp, .inr ⟨g, cap, _, by rw [hlen], hbg, setRow_heap w g cur _ T _ hg, by rw [hlen]; exact hroom, hcm, ?_, ?_⟩⟩, ?_⟩
      · simp; omega
      · simp only [Nat.mul_one] at htake
        rw [htake]
        simp only [hlen, Nat.mul_one, List.map_append]
        rw [show M.length + n = (M.map (Value.int k) ++ (List.replicate n 0).map (Value.int k)).length by simp]
        exact List.take_left
      · exact (Below.refl base w).grown ⟨rfl, rfl, rfl, by simp, fun j _ hj => setRow_other w g j _ (fun e => hj (by rw [e]))⟩ hbase fun b hb => by cases hb; exact hbg
    · have holds : ∀ j u, (M.map (Value.int k))[j]? = some u → w.cell? ((⟨g, 0, none⟩ : Addr).add j) = some u := World.ownsRow.cells hown (g := g) rfl
      have hfc : (Builtin.firstCells i0.size M.length (.slice (some ⟨g, 0, none⟩) M.length cap)).run Try.prog w.drew = .ok (M.map (Value.int k)).toArray w.drew := run_firstCells_some w.drew i0.size M.length ⟨g, 0, none⟩ M.length cap _ (by simp [hz1]) holds
      have hr := run_append_grow_zeros (P := Try.prog) w S N ty T i0 (.int k 0) kq kn hu hN hi0 hz0 (some ⟨g, 0, none⟩) M.length cap _ hfc n h0 (by omega) (by omega) (by omega) (by omega) (fits cap (by omega))
      exact ⟨_, _, _, by rw [hlen]; exact hr, grown cap _ (by omega) rfl, (Below.refl base w).drew.alloc (by simpa using hbase) _⟩
end Go.Proofs.Ytmmjannkfmiohaa

namespace Go.Proofs.Ytmmjannkfmiohaa
open Go.RowKit
set_option linter.unusedVariables false

def btw (p q n : Int) : Bool := decide (p ≤ n ∧ n ≤ q)
theorem btw_no {p q n : Int} (h : btw p q n = false) : n < p ∨ q < n := by unfold btw at h; simp at h; omega
theorem btw_yes {p q n : Int} (h : btw p q n = true) : p ≤ n ∧ n ≤ q := by unfold btw at h; simpa using h
theorem all_on {f : Int → Bool} {D : List Int} {j : Nat} (hj : j < D.length) (h : (D.take j).all f = true) (hx : f D[j] = true) : (D.take (j + 1)).all f = true := by
  rw [List.take_succ_eq_append_getElem hj, List.all_append, h]; simp [hx]
theorem all_off {f : Int → Bool} {D : List Int} {j : Nat} (hj : j < D.length) (hx : f D[j] = false) : D.all f = false := by
  rw [Bool.eq_false_iff]
  intro e
  have := List.all_eq_true.1 e D[j] (List.getElem_mem hj)
  rw [hx] at this; cases this

theorem Try.infoS9 : (Try.prog.info? 2).map (fun i => (i.zero, i.size, i.bytes)) = some (some (.int .i64 0), 1, 8) := by kernel_rfl

set_option maxHeartbeats 1000000 in
theorem all9_any (p q : Int) (lo hi : Nat) (ao : Option Addr) (ca : Nat) (D : List Int) (w : World) (hR : Row .i64 w lo hi ao D) (hs : hi ≤ w.heap.size) (hl : D.length ≤ 1048576) :
    Calls Try.prog 37 #[.slice ao D.length ca, .int .i64 p, .int .i64 q] w fun e w' => e = .returned (.bool (D.all (btw p q))) ∧ w' = w := by
  have hl' : (D.length : Int) ≤ 1048576 := by omega
  have HR := hideP hR
  clear hR
  go_enter Try.func37, Try.ntmps37
  go_wp2
  go_loop [7] (fun i => ∃ j : Nat, j ≤ D.length ∧ i = .int .i64 j ∧ (D.take j).all (btw p q) = true) (fun i => D.length - (intOf i).toNat)
  case atStart => exact ⟨0, Nat.zero_le _, rfl, rfl⟩
  case round =>
    obtain ⟨j, hj, rfl, hall⟩ := hrel
    by_cases hlt : j < D.length
    · have hlt' : (j : Int) < (D.length : Int) := by omega
      have hne' : D ≠ [] := fun e => by rw [e] at hlt; simp at hlt
      rcases HR.out with e | ⟨g, o, rfl, _, hg, hc⟩
      · exact absurd e hne'
      have a0 := hc j hlt
      have hgl : g < w.heap.size := by omega
      have HBad := hideP (all_off (f := btw p q) hlt)
      have HOn := hideP (all_on (f := btw p q) hlt hall)
      clear hc hall HR hne'
      generalize D[j] = z at *
      cases hz : btw p q z
      · have hF := hideP (HBad.out hz)
        have hn := btw_no hz
        clear HBad HOn
        go_wp2_with (go_at_call 53; refine Calls.mono (in_no _ _ _ _ hn) ?_; rintro e w1 ⟨rfl, rfl⟩)
        go_returns
        exact ⟨by rw [hF.out]; rfl, rfl⟩
      · have hO := hideP (HOn.out hz)
        obtain ⟨hn1, hn2⟩ := btw_yes hz
        clear HBad HOn
        go_wp2_with (go_at_call 53; refine Calls.mono (in_yes _ _ _ _ hn1 hn2) ?_; rintro e w1 ⟨rfl, rfl⟩)
        go_round
        case rel => exact ⟨j + 1, by omega, by go_num, hO.out⟩
        case measure => simp [intOf]; omega
    · obtain rfl : j = D.length := by omega
      rw [List.take_length] at hall
      have hF := hideP hall
      clear hall
      go_wp2
      go_returns
      exact ⟨by rw [hF.out]; rfl, rfl⟩

set_option maxHeartbeats 400000 in
theorem in9_any (n p q : Int) (w : World) : Calls Try.prog 53 #[.int .i64 n, .int .i64 p, .int .i64 q] w fun e w' => e = .returned (.bool (btw p q n)) ∧ w' = w := by
  cases h : btw p q n
  · exact in_no n p q w (btw_no h)
  · exact in_yes n p q w (btw_yes h).1 (btw_yes h).2

/-- What a strip that is right tells. -/
def stripC (m f : Int) (A : List Int) : List Int := ([400 + m, f + 1, (A.length : Int)] ++ A) ++ List.replicate (9 - A.length) 0
theorem stripC_len {m f : Int} {A : List Int} (h : A.length ≤ 4) : (stripC m f A).length = 12 := by unfold stripC; simp; omega
theorem strip_snoc (P : List Int) (j : Nat) : (P ++ List.replicate j 0) ++ [0] = P ++ List.replicate (j + 1) 0 := by rw [List.append_assoc, List.replicate_succ']

set_option maxRecDepth 100000 in
set_option maxHeartbeats 2000000 in
theorem sStrip_any (m f : Int) (lo hi : Nat) (ao : Option Addr) (ca : Nat) (A : List Int) (w : World) (hR : Row .i64 w lo hi ao A) (hs : hi ≤ w.heap.size) (hl : A.length ≤ 4) (hm : 0 ≤ m ∧ m ≤ 1) (hf : -1 ≤ f ∧ f ≤ 63) :
    Calls Try.prog 21 #[.int .i64 m, .int .i64 f, .slice ao A.length ca] w fun e w' => ∃ ao' cap', e = .returned (.slice ao' 12 cap') ∧ OwnR .i64 2 w' w.heap.size ao' cap' (stripC m f A) ∧ Below w.heap.size w w' := by
  have HR := hideP hR
  obtain ⟨m1, m2⟩ := hm
  obtain ⟨f1, f2⟩ := hf
  have hl' : (A.length : Int) ≤ 4 := by omega
  clear hR
  go_enter Try.func21, Try.ntmps21
  go_wp2_with (first | (at_builtin; refine wpList_app (k := .i64) (T := 2) (S := 26) (bytes := 8) Try.underlying26 Try.infoS9 (by omega) rfl _ _ rfl w.heap.size (some ⟨w.heap.size, 0, none⟩) 3 [400 + m, f + 1, (A.length : Int)] rfl (OwnR.lit .i64 2 w w.heap.size [400 + m, f + 1, (A.length : Int)] _ rfl (Nat.le_refl _) (by unfold maxLen; simp)) ao ca A rfl (HR.out.keep (B := w.heap.size) ((Below.refl _ _).alloc (Nat.le_refl _) _) hs).src (by simp; omega) (by simp) ?_; intro ao2 cap2 w2 O2 K2; refine Hid.out ?_) | go_in)
  have HO2 : Hid (OwnR .i64 2 w2 w.heap.size ao2 cap2 ([400 + m, f + 1, (A.length : Int)] ++ A)) := hideP O2
  have HK2 : Hid (Below w.heap.size w w2) := hideP (Below.trans (by go_grown) K2)
  have hn2 := HK2.out.size
  clear O2 K2
  refine hideP ?_
  go_wp2
  go_loopw [7] (fun v wr => ∃ (j : Nat) (so : Option Addr) (sc : Nat), j ≤ 9 - A.length ∧ v = .slice so (([400 + m, f + 1, (A.length : Int)] ++ A) ++ List.replicate j 0).length sc ∧ OwnR .i64 2 wr w.heap.size so sc (([400 + m, f + 1, (A.length : Int)] ++ A) ++ List.replicate j 0) ∧ Below w.heap.size w wr) (fun v _ => match v with | .slice _ n _ => 12 - n | _ => 0)
  case atStart => exact ⟨0, ao2, cap2, Nat.zero_le _, by simp, by simpa using HO2.out, HK2.out⟩
  case round =>
    obtain ⟨j, so, sc, hj, rfl, O, K⟩ := hrel
    have HO := hideP O
    have HK := hideP K
    have hn := K.size
    clear O K HO2 HK2
    have HP := hideP (strip_snoc ([400 + m, f + 1, (A.length : Int)] ++ A) j)
    obtain ⟨P, hP⟩ : ∃ P, [400 + m, f + 1, (A.length : Int)] ++ A = P := ⟨_, rfl⟩
    have hPl : P.length = 3 + A.length := by rw [← hP]; simp; omega
    have HPP := hideP hP
    rw [hP] at HO HP ⊢
    clear hP
    obtain ⟨M, hM⟩ : ∃ M, P ++ List.replicate j 0 = M := ⟨_, rfl⟩
    have hMl : M.length = 3 + A.length + j := by rw [← hM]; simp; omega
    have HMM := hideP hM
    rw [hM] at HO HP ⊢
    clear hM
    have hb : M.length ≤ 12 := by omega
    have HMl := hideP hMl
    by_cases hlt : j < 9 - A.length
    · have hlt' : (M.length : Int) < 12 := by omega
      clear hMl hPl
      go_wp2_with (first | (at_builtin; refine wpList_app (k := .i64) (T := 2) (S := 26) (bytes := 8) Try.underlying26 Try.infoS9 (by omega) rfl _ _ rfl w.heap.size so sc M rfl (HO.out.alloc _) _ 1 [0] rfl (src_one .i64 wr 0 2) (by simp; omega) (by simp; omega) ?_; intro ao4 ca4 w4 O4 K4; refine Hid.out ?_) | go_in)
      have HO4 : Hid (OwnR .i64 2 w4 w.heap.size ao4 ca4 (P ++ List.replicate (j + 1) 0)) := hideP (by rw [HP.out] at O4; exact O4)
      have HK4 : Hid (Below w.heap.size w w4) := hideP (HK.out.trans (Below.trans (by go_grown) K4))
      have HL : Hid ((M ++ [0]).length = (P ++ List.replicate (j + 1) 0).length) := hideP (by rw [HP.out])
      clear O4 K4 HO HK
      refine hideP ?_
      go_wp2
      go_roundw
      case rel => exact ⟨j + 1, ao4, ca4, by omega, by rw [← HL.out]; simp, HO4.out, HK4.out⟩
      case measure => simp; omega
    · obtain rfl : j = 9 - A.length := by omega
      have hge : ¬ (M.length : Int) < 12 := by omega
      have H12 := hideP (show M.length = 12 by omega)
      have HC : Hid (M = stripC m f A) := hideP (by rw [← HMM.out, ← HPP.out]; rfl)
      clear hMl hPl
      go_wp2
      go_returns
      exact ⟨so, sc, by rw [← H12.out]; rfl, by rw [← HC.out]; exact HO.out, HK.out⟩
end Go.Proofs.Ytmmjannkfmiohaa

namespace Go.Proofs.Ytmmjannkfmiohaa
open Go.RowKit
set_option linter.unusedVariables false

theorem elemNs : Try.prog.elem 26 = 2 := by kernel_rfl
theorem Try.sizeNs (w : World) : (sizeOf 2).run Try.prog w = .ok 1 w := Try.sizeOf2 w
set_option maxRecDepth 100000 in
theorem sl1I (g len cap : Nat) (kl : IntKind) (h1 : 1 ≤ len) (hc : 2 ≤ cap) (w : World) :
    (Instr.slice 26 (.slice (some ⟨g, 0, none⟩) len cap) (some (.int kl 1)) none none).run Try.prog w = .ok (.slice (some ⟨g, 1, none⟩) (len - 1) (cap - 1)) w := by
  rw [run_slice_l w 26 _ len cap Try.underlying26 kl 1 (by omega) (by omega), elemNs, Try.sizeNs]
  simp only [Result.andThen_ok]
  unfold sliced
  have h : ¬ cap = 1 := by omega
  simp [h, add_none]
set_option maxRecDepth 100000 in
theorem sluI (g o len cap : Nat) (kh : IntKind) (hc : 12 ≤ cap) (w : World) :
    (Instr.slice 26 (.slice (some ⟨g, o, none⟩) len cap) none (some (.int kh 12)) none).run Try.prog w = .ok (.slice (some ⟨g, o, none⟩) 12 cap) w := by
  rw [run_slice_h w 26 _ len cap Try.underlying26 kh 12 (by omega) (by omega), elemNs, Try.sizeNs]
  simp only [Result.andThen_ok]
  unfold sliced
  have h : ¬ cap = 0 := by omega
  simp [h, add_none]
attribute [local go_sem high] sl1I

/-- Numbers in a block of one's own, from its start on. -/
structure OwI (w : World) (base g cap : Nat) (L : List Int) : Prop where
  c : ∀ i (h : i < L.length), w.cell? ⟨g, i, none⟩ = some (.int .i64 L[i])
  fr : ∀ c, w.frozen? ⟨g, c, none⟩ = false
  lo : base ≤ g
  lt : g < w.heap.size
  room : L.length ≤ cap
theorem owI_of {w : World} {base : Nat} {ao : Option Addr} {cap : Nat} {L : List Int} (h : OwnR .i64 2 w base ao cap L) (hp : 0 < L.length) : ∃ g, ao = some ⟨g, 0, none⟩ ∧ OwI w base g cap L := by
  have hroom : L.length ≤ cap := by
    rcases h.2 with ⟨hx, h0⟩ | ⟨g', cap', cur, hv, _, _, hnc, _⟩
    · injection hx with _ h1 h2; omega
    · cases hv; exact hnc
  obtain ⟨g, cap', hv, hb, hlt⟩ := World.ownsRow.form h hp
  cases hv
  refine ⟨g, rfl, fun i hi => ?_, fun c => World.ownsRow.frozenAt h c, hb, hlt, hroom⟩
  rw [World.ownsRow.cellAt h i (by omega)]
  simp [hi]
theorem OwI.far {w w' : World} {base g cap lo hi : Nat} {L : List Int} (h : OwI w base g cap L) (f : Far lo hi w w') (hd : g < lo ∨ hi ≤ g) : OwI w' base g cap L :=
  ⟨fun i hi => (f.cell g i h.lt hd).trans (h.c i hi), fun c => (f.frozen g c h.lt hd).trans (h.fr c), h.lo, Nat.lt_of_lt_of_le h.lt f.size, h.room⟩
theorem OwI.row {w : World} {base g cap : Nat} {L : List Int} (h : OwI w base g cap L) : Row .i64 w 0 w.heap.size (some ⟨g, 0, none⟩) L :=
  .inr ⟨g, 0, rfl, Nat.zero_le _, h.lt, fun i hi => by rw [Nat.zero_add]; exact h.c i hi⟩
theorem OwI.tail {w : World} {base g cap : Nat} {L : List Int} (h : OwI w base g cap L) : Row .i64 w 0 w.heap.size (some ⟨g, 1, none⟩) (L.drop 1) :=
  .inr ⟨g, 1, rfl, Nat.zero_le _, h.lt, fun i hi => by rw [h.c (1 + i) (by simp at hi; omega), List.getElem_drop]⟩
theorem OwI.put {w : World} {base g cap : Nat} {L : List Int} (h : OwI w base g cap L) (j : Nat) (v : Int) (hj : j < L.length) : OwI (w.setCell ⟨g, j, none⟩ (.int .i64 v)) base g cap (L.set j v) := by
  refine ⟨fun i hi => ?_, fun c => by simpa using h.fr c, h.lo, by simpa using h.lt, by simpa using h.room⟩
  have hi' : i < L.length := by simpa using hi
  rw [List.getElem_set]
  by_cases e : j = i
  · subst e
    rw [if_pos rfl]
    exact cell_set_same (h.c j hi')
  · rw [if_neg e]
    exact (cell_set_other (by omega)).trans (h.c i hi')

/-- A stack, labels and a strip were drawn. -/
def DrawSc (w : World) (e : Ending) (w' : World) : Prop :=
  ∃ (so : Option Addr) (sc : Nat) (L : List Wn) (la : Option Addr) (lc : Nat) (LL : List La) (ao : Option Addr) (ac : Nat) (A : List Int), e = .returned (.tuple #[.slice so L.length sc, .slice la LL.length lc, .slice ao A.length ac]) ∧ L.length ≤ 13 ∧ wzs L ≤ 624 ∧ LL.length ≤ 4 ∧ A.length ≤ 12 ∧ Below w.heap.size w w' ∧ Ws w' 0 w'.heap.size so L ∧ Las w' 0 w'.heap.size la LL ∧ Row .i64 w' 0 w'.heap.size ao A
/-- What was drawn so far. -/
structure ScM (w W : World) (b : Nat) (so la : Option Addr) (L : List Wn) (LL : List La) (h1 h2 : Nat) : Prop where
  k : Below w.heap.size w W
  l : Ws W (b + 1) h1 so L
  a : Las W h1 h2 la LL
  hb : w.heap.size ≤ b
  hs : h2 ≤ W.heap.size
  h12 : h1 ≤ h2
  bs : b < h1
theorem ScM.turn {w W W' : World} {b : Nat} {so la : Option Addr} {L : List Wn} {LL : List La} {h1 h2 : Nat} (h : ScM w W b so la L LL h1 h2) (t : Turn b W W') : ScM w W' b so la L LL h1 h2 := by
  have q1 := h.hb
  have q2 := h.hs
  have q3 := h.h12
  have q4 := h.bs
  exact ⟨Turn.below h.k q1 (by omega) t, h.l.turn t (Nat.lt_succ_self _) (by omega), h.a.far t.far (.inr (by omega)) q2, q1, Nat.le_trans q2 t.size, q3, q4⟩
theorem ScM.keep {w W W' : World} {b : Nat} {so la : Option Addr} {L : List Wn} {LL : List La} {h1 h2 : Nat} (h : ScM w W b so la L LL h1 h2) (t : Below W.heap.size W W') : ScM w W' b so la L LL h1 h2 := h.turn (Turn.of_below t)
theorem ScM.set {w W : World} {b : Nat} {so la : Option Addr} {L : List Wn} {LL : List La} {h1 h2 g o : Nat} {v : Value} (h : ScM w W b so la L LL h1 h2) (hg : h2 ≤ g) : ScM w (W.setCell ⟨g, o, none⟩ v) b so la L LL h1 h2 := by
  have q1 := h.hb
  have q2 := h.hs
  have q3 := h.h12
  have q4 := h.bs
  have F : Far g (g + 1) W (W.setCell ⟨g, o, none⟩ v) := (Turn.store W ⟨g, o, none⟩ v).far
  exact ⟨h.k.setCell (p := ⟨g, o, none⟩) (by show w.heap.size ≤ g; omega) v, h.l.far F (.inl (by omega)) (by omega), h.a.far F (.inl hg) q2, q1, by simpa using q2, q3, q4⟩

set_option maxRecDepth 100000 in
set_option maxHeartbeats 4000000 in
theorem drawScr_any (w : World) (a : Option Addr) (len cap : Nat) (f : Nat → Int) (hB : Bytes w w.heap.size a len f) (hl : len ≤ 1048576) :
    Calls Try.prog 5 #[.slice a len cap] w (DrawSc w) := by
  have S0 : Hid (Src (w.alloc (.cells #[.slice a len cap, .int .i64 0] 83)) w.heap.size w.heap.size a len cap f 0) := hideP
    ⟨by simp, Nat.le_refl _, by simp [go_sem], by simp [go_sem], by simp [go_sem], hB.stay (Nat.le_refl _) (Turn.of_below (b := w.heap.size) ((Below.refl _ _).alloc (Nat.le_refl _) _)) (Nat.le_refl _), hl⟩
  clear hB
  go_enter Try.func5, Try.ntmps5
  go_wp2_with (first | (go_at_call 18; go_in))
  refine Calls.mono (wbent_any _ _ _ a len cap f 0 S0.out (by omega) (by omega)) ?_
  rintro e w1 ⟨so, sc, M, u1, rfl, hM, hz, p1, q1, hW, ht, hs⟩
  have m1 := ht.size
  simp only [World.size_alloc] at m1 hW
  have K1 := hideP (Turn.below ((Below.refl w.heap.size w).alloc (Nat.le_refl _) (.cells #[.slice a len cap, .int .i64 0] 83)) (Nat.le_refl _) (by simp) ht)
  have W1 := hideP hW
  have S1 := hideP hs
  clear ht hs hW S0
  go_wp2_with fail
  refine Calls.mono (labs_any w1 _ _ a len cap f u1 S1.out (by omega) (by omega)) ?_
  rintro e w2 ⟨la, lc, LL, u2, rfl, hLL, p2, q2, hA, ht, hs⟩
  have D2 : Hid (ScM w w2 w.heap.size so la M LL w1.heap.size w2.heap.size) := hideP ⟨Turn.below K1.out (Nat.le_refl _) (by omega) ht, W1.out.turn ht (by omega) (Nat.le_refl _), hA, Nat.le_refl _, Nat.le_refl _, ht.size, by omega⟩
  have S2 := hideP hs
  clear ht hs hA K1 W1 S1
  go_wp2_with fail
  refine Calls.mono (next_any w2 _ _ a len cap f u2 2 S2.out (by omega) (by omega) (by omega) (by omega)) ?_
  rintro e w3 ⟨m, rfl, m0, m1', ht, hs⟩
  have D3 := hideP (D2.out.turn ht)
  have S3 := hideP hs
  have n3 := ht.size
  clear ht hs D2 S2
  go_wp2_with fail
  refine Calls.mono (next_any w3 _ _ a len cap f (u2 + 1) 9 S3.out (by omega) (by omega) (by omega) (by omega)) ?_
  rintro e w4 ⟨f9, rfl, f0, f1, ht, hs⟩
  have D4 := hideP (D3.out.turn ht)
  have S4 := hideP hs
  have n4 := Nat.le_trans n3 ht.size
  clear ht hs D3 S3
  go_wp2_with fail
  refine Calls.mono (sStrip_any m f9 0 w4.heap.size none 0 [] w4 (.inl rfl) (Nat.le_refl _) (by simp) (by omega) (by omega)) ?_
  rintro e w5 ⟨ao, ac, rfl, O5, kk⟩
  have hl12 : (stripC m f9 []).length = 12 := stripC_len (by simp)
  obtain ⟨g, rfl, I5⟩ := owI_of O5 (by omega)
  generalize stripC m f9 [] = A at *
  have D5 := hideP (D4.out.keep kk)
  have S5 := hideP (S4.out.grow kk)
  have HI5 := hideP I5
  have hg4 : w4.heap.size ≤ g := I5.lo
  have hrm : 12 ≤ ac := by have := I5.room; omega
  have HL12 := hideP hl12
  clear kk O5 I5 D4 S4 hl12
  go_wp2_with fail
  refine Calls.mono (next_any w5 _ _ a len cap f (u2 + 1 + 1) 12 S5.out (by omega) (by omega) (by omega) (by omega)) ?_
  rintro e w6 ⟨r, rfl, r0, r1, ht, hs⟩
  have hgb : w.heap.size + 1 ≤ g := by have := D5.out.bs; have := D5.out.h12; omega
  have D6 := hideP (D5.out.turn ht)
  have I6 := hideP (HI5.out.far ht.far (.inr hgb))
  have S6 := hideP hs
  clear ht hs D5 S5 HI5
  by_cases e0 : r = 0
  · subst e0
    have hrm2 : 2 ≤ ac := by omega
    go_wp2
    go_returns
    have h11 : 11 = (A.drop 1).length := by rw [List.length_drop, HL12.out]
    refine ⟨so, sc, M, la, lc, LL, some ⟨g, 1, none⟩, ac - 1, A.drop 1, by rw [← h11]; rfl, hM, hz, hLL, by omega, D6.out.k, D6.out.l.wide (Nat.zero_le _) (Nat.le_trans D6.out.h12 D6.out.hs), D6.out.a.wide (Nat.zero_le _) D6.out.hs, I6.out.tail⟩
  · have q0 : (r == 0) = false := by simpa using e0
    by_cases e1 : r = 1
    · subst e1
      go_wp2_with fail
      refine Calls.mono (pick5 (fun _ => True) w6 _ _ a len cap f (u2 + 1 + 1 + 1) _ 2 3 w6.heap.size rfl (inbL5 [999, 1000, -1] (by simp)) S6.out (by omega) (by omega) (by omega) (by omega)) ?_
      rintro e w7 ⟨v, rfl, -, ht, hs⟩
      have D7 := hideP (D6.out.turn ht)
      have I7 := hideP (I6.out.far ht.far (.inr hgb))
      have hA5 : 5 < A.length := by rw [HL12.out]; omega
      have D8 := hideP (D7.out.set (g := g) (o := 5) (v := .int .i64 v) (by omega))
      have I8 := hideP (I7.out.put 5 v hA5)
      have x5 := I7.out.c 5 hA5
      have xf := I7.out.fr
      have xl := I7.out.lt
      clear ht hs D6 I6 S6
      go_wp2
      go_returns
      have h12 : 12 = (A.set 5 v).length := by rw [List.length_set, HL12.out]
      refine ⟨so, sc, M, la, lc, LL, some ⟨g, 0, none⟩, ac, A.set 5 v, by rw [← h12]; rfl, hM, hz, hLL, by omega, D8.out.k, D8.out.l.wide (Nat.zero_le _) (Nat.le_trans D8.out.h12 D8.out.hs), D8.out.a.wide (Nat.zero_le _) D8.out.hs, I8.out.row⟩
    · have q1' : (r == 1) = false := by simpa using e1
      go_wp2
      go_returns
      refine ⟨so, sc, M, la, lc, LL, some ⟨g, 0, none⟩, ac, A, by rw [HL12.out]; rfl, hM, hz, hLL, by rw [HL12.out]; omega, D6.out.k, D6.out.l.wide (Nat.zero_le _) (Nat.le_trans D6.out.h12 D6.out.hs), D6.out.a.wide (Nat.zero_le _) D6.out.hs, I6.out.row⟩
end Go.Proofs.Ytmmjannkfmiohaa
