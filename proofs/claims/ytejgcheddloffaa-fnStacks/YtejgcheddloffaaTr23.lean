/- Windows dropped by the specification: two parts of a copy joined. RaiseWindow by the specification. Windows moved. -/
import Derived.Test.YtejgcheddloffaaTr22
import Derived.Laws.OwnMore
import Derived.Test.YtejgcheddloffaaTr19
namespace Go.Proofs.Ytejgcheddloffaa
open Go.RowKit Go.Maps
set_option linter.unusedVariables false

theorem vcs_one {V : Wn → List Value} (hone : ∀ v, ∀ u ∈ V v, u.oneCell' = true) (L : List Wn) : ∀ u ∈ vcs V L, u.oneCell' = true := by
  intro u hu
  obtain ⟨v, _, hv⟩ := List.mem_flatMap.1 hu
  exact hone v u hv
/-- The cells of a part of a row. -/
theorem SpV.part {V : Wn → List Value} (hV : ∀ v, (V v).length = 7) {w : World} {lo hi g : Nat} {P Q R : List Wn} (h : SpV V w lo hi (some ⟨g, 0, none⟩) (P ++ (Q ++ R))) (j : Nat) (u : Value) (hj : (vcs V Q)[j]? = some u) : w.cell? ⟨g, P.length * 7 + j, none⟩ = some u := by
  have hj' : j < Q.length * 7 := by have := (List.getElem?_eq_some_iff.1 hj).1; rwa [vcs_len hV] at this
  have hi : j / 7 < Q.length := by omega
  have hm := vcs_at hV Q (j / 7) hi (j % 7) (by omega)
  rw [show j / 7 * 7 + j % 7 = j by omega, hj] at hm
  rcases h with h | ⟨g', ha, g1, g2, hc, hf⟩
  · have : Q = [] := by simp at h; exact h.2.1
    subst this
    simp at hi
  · cases ha
    have h1 := hc (P.length + j / 7) (by simp; omega) (j % 7) (by omega)
    rw [List.getElem_append_right (by omega)] at h1
    simp only [Nat.add_sub_cancel_left] at h1
    rw [List.getElem_append_left hi, ← hm] at h1
    rw [← h1]
    congr 2
    omega

/-- Many windows more. -/
theorem wpList_appWs {V : Wn → List Value} {T S : TypeId} {zv : Value} {w : World} {ops : Array Oper} {rest : List Oper} {o : Oper} {a : Act} {Q : Exit → Act → World → Prop}
    (hV : ∀ v, (V v).length = 7) (hone : ∀ v, ∀ u ∈ V v, u.oneCell' = true) (hu : Try.prog.underlying S = some (.slice T)) (hinf : (Try.prog.info? T).map (fun i => (i.zero, i.size, i.bytes)) = some (some zv, 7, 72)) (hz : zv.cells.size = 7)
    (hg : o.guard = none) (s x : Operand) (ho : o.op = .call { callee := .builtin .append, args := #[s, x], argTypes := #[S, S] })
    (base : Nat) (so : Option Addr) (sc m l : Nat) (M : List Wn) (hml : M.length = m) (hs : a.eval s = .slice so m sc) (hown : OwnV V T w base so sc M)
    (ad : Addr) (cx : Nat) (L : List Wn) (hll : L.length = l) (hx : a.eval x = .slice (some ad) l cx) (hc : ∀ j u, (vcs V L)[j]? = some u → w.cell? (ad.add j) = some u) (hn : m + l ≤ 1048576) (hbase : base ≤ w.heap.size)
    (h : ∀ so' sc' w', OwnV V T w' base so' sc' (M ++ L) → Below base w w' → wpList Try.prog ops Q rest (a.put o.dst (.slice so' (m + l) sc')) w') : wpList Try.prog ops Q (o :: rest) a w := by
  subst hml hll
  refine wpList_plain hg fun K hK => ?_
  obtain ⟨i0, hi0, hz0, hz1, hz2⟩ := info_parts hinf
  refine wp_append_own w s x S ho base T i0 zv 7 72 hu hi0 hz0 hz1 hz2 hz (by decide) _ M.length (vcs V M) hs hown ad L.length cx (vcs V L) hx (vcs_len hV L) hc (vcs_one hone L) (by unfold maxLen; omega) (by omega) hbase fun v' w' ho' hg' _ => ?_
  have ho2 : w'.ownsRow base T 7 v' (M ++ L).length (vcs V (M ++ L)) := by rw [vcs_app, List.length_append]; exact ho'
  have hbel : Below base w w' := (Below.refl base w).grown hg' hbase fun q hq => (World.ownsRow.lt hown q hq).1
  obtain ⟨so', sc', rfl⟩ : ∃ ao cap, v' = .slice ao (M ++ L).length cap := by
    rcases ho2.2 with ⟨rfl, h0⟩ | ⟨g, cap, cur, rfl, _⟩
    · exact ⟨none, 0, by rw [h0]⟩
    · exact ⟨_, cap, rfl⟩
  have hh := h so' sc' w' ho2 hbel
  rw [← List.length_append] at hh
  exact hK _ _ hh

set_option maxRecDepth 100000 in
set_option maxHeartbeats 1000000 in
theorem l7Without_own (base g c n : Nat) (X Y : List Wn) (r : Wn) (w : World) (LN : LinV Wn.vals 38 w base (some ⟨g, 0, none⟩) c (X ++ r :: Y)) (hb : base ≤ w.heap.size) (hnn : (X ++ r :: Y).length = n) (hn : n ≤ 1048576) :
    Calls Try.prog 35 #[.slice (some ⟨g, 0, none⟩) n c, .int .i64 X.length] w fun e w' => ∃ (s : Option Addr) (c' : Nat), e = .returned (.slice s (X.length + Y.length) c') ∧ LinV Wn.vals 38 w' base s c' (X ++ Y) ∧ OwnV Wn.vals 38 w' w.heap.size s c' (X ++ Y) ∧ Below w.heap.size w w' := by
  have hn' : (n : Int) ≤ 1048576 := by omega
  have hl : X.length + 1 + Y.length = n := by rw [← hnn]; simp; omega
  have hln : (X.length : Int) < (n : Int) := by omega
  obtain ⟨_, hlc, hcm, _⟩ := LN.own.blk
  rw [hnn] at hlc
  have SU := fun w => sw_upto g n c .i64 (X.length : Int) (by omega) (by omega) w
  have SF := fun w => sw_from (some ⟨g, 0, none⟩) n c .i64 ((X.length : Int) + 1) (by omega) (by omega) w
  rw [Int.toNat_natCast] at SU
  rw [show ((X.length : Int) + 1).toNat = X.length + 1 by omega] at SF
  rw [show n - (X.length + 1) = Y.length by omega] at SF
  obtain ⟨ad, had, hcs⟩ : ∃ ad, wFrom (some ⟨g, 0, none⟩) c (X.length + 1) = some ad ∧ ∀ w' lo hi, SpV Wn.vals w' lo hi (some ⟨g, 0, none⟩) (X ++ r :: Y) → ∀ j u, (vcs Wn.vals Y)[j]? = some u → w'.cell? (ad.add j) = some u := by
    unfold wFrom
    by_cases e : c = X.length + 1
    · have hY : Y = [] := List.length_eq_zero_iff.1 (by omega)
      subst hY
      exact ⟨⟨g, 0, none⟩, by rw [if_pos e], fun w' lo hi _ j u hj => by simp [vcs] at hj⟩
    · refine ⟨⟨g, (X.length + 1) * 7, none⟩, by rw [if_neg e]; simp [add_none], fun w' lo hi h j u hj => ?_⟩
      have := SpV.part (P := X ++ [r]) (Q := Y) (R := []) vals7 (by simpa using h) j u hj
      rw [add_none]
      simpa using this
  rw [had] at SF
  have HCS := hideP hcs
  clear hcs had
  have h0 := hideP (LN.own.sp vals7)
  have HLN := hideP LN
  clear LN hnn
  go_enter Try.func35, Try.ntmps35
  have O1 : Hid (OwnV Wn.vals 38 (w.alloc (.cells #[] 38)) w.heap.size (some ⟨w.heap.size, 0, none⟩) 0 []) := hideP (OwnV.lit _ _ _ (Nat.le_refl _))
  have k1 := kalC w (.cells #[] 38)
  have c1 : Hid (∀ j u, (vcs Wn.vals X)[j]? = some u → (w.alloc (.cells #[] 38)).cell? ((⟨g, 0, none⟩ : Addr).add j) = some u) := hideP fun j u hj => by
    have := SpV.part (P := []) vals7 ((h0.out.keep k1 (Nat.le_refl _)) : SpV Wn.vals _ _ _ _ ([] ++ (X ++ r :: Y))) j u hj
    rw [add_none]
    simpa using this
  have K1 := hideP k1
  clear k1
  go_wp2_with (first | (at_builtin; go_loud (refine wpList_appWs (V := Wn.vals) (T := 38) vals7 vals1 Try.underlying24 Try.infoWn rfl rfl _ _ rfl w.heap.size (some ⟨w.heap.size, 0, none⟩) 0 0 X.length [] rfl rfl O1.out ⟨g, 0, none⟩ c X rfl rfl c1.out (by omega) (by simp) ?_; intro s2 c2 w2 O2 K2; refine Hid.out ?_)) | go_in)
  have O2' := hideP (show OwnV Wn.vals 38 w2 w.heap.size s2 c2 X by simpa using O2)
  have KB2 := hideP (K1.out.trans K2)
  have n2 := KB2.out.size
  have c3 := hideP (HCS.out w2 base w.heap.size (h0.out.keep KB2.out (Nat.le_refl _)))
  clear O2 K2 K1 c1 O1
  refine hideP ?_
  go_wp2_with (first | (at_builtin; go_loud (refine wpList_appWs (V := Wn.vals) (T := 38) vals7 vals1 Try.underlying24 Try.infoWn rfl rfl _ _ rfl w.heap.size s2 c2 X.length Y.length X rfl rfl O2'.out ad (c - (X.length + 1)) Y rfl rfl c3.out (by omega) (by omega) ?_; intro s3 c4 w3 O3 K3; refine Hid.out ?_)) | go_in)
  have KB3 := hideP (KB2.out.trans K3)
  have LN3 : Hid (LinV Wn.vals 38 w3 base s3 c4 (X ++ Y)) := hideP (by
    have hsub : ((X ++ Y).map Wn.b).Sublist ((X ++ r :: Y).map Wn.b) := List.Sublist.map _ (by simp)
    exact ⟨O3.le hb, ((HLN.out.cis.keep KB3.out (Nat.le_refl _)).sub hsub).wide (Nat.le_refl _) KB3.out.size, fun b m => Ci.ty_keep (HLN.out.ty b (hsub.subset m)) KB3.out⟩)
  have HO3 := hideP O3
  clear O3 K3 KB2 c3 HLN h0 HCS O2'
  refine hideP ?_
  go_wp2
  go_returns
  exact ⟨s3, c4, rfl, LN3.out, HO3.out, KB3.out⟩
theorem l7Without_any (base g c n : Nat) (X Y : List Wn) (r : Wn) (w : World) (LN : LinV Wn.vals 38 w base (some ⟨g, 0, none⟩) c (X ++ r :: Y)) (hb : base ≤ w.heap.size) (hnn : (X ++ r :: Y).length = n) (hn : n ≤ 1048576) :
    Calls Try.prog 35 #[.slice (some ⟨g, 0, none⟩) n c, .int .i64 X.length] w fun e w' => ∃ (s : Option Addr) (c' : Nat), e = .returned (.slice s (X.length + Y.length) c') ∧ LinV Wn.vals 38 w' base s c' (X ++ Y) ∧ Below w.heap.size w w' := by
  refine (l7Without_own base g c n X Y r w LN hb hnn hn).mono ?_
  rintro e w' ⟨s, c', he, h1, _, h2⟩
  exact ⟨s, c', he, h1, h2⟩
end Go.Proofs.Ytejgcheddloffaa

namespace Go.Proofs.Ytejgcheddloffaa
open Go.RowKit Go.Maps
set_option linter.unusedVariables false

end Go.Proofs.Ytejgcheddloffaa

namespace Go.Proofs.Ytejgcheddloffaa
open Go.RowKit Go.Maps
set_option linter.unusedVariables false

/-- Where a rectangle may begin. -/
def nearB (x y : Int) : Bool := decide (-20 ≤ x ∧ x ≤ 20 ∧ -20 ≤ y ∧ y ≤ 20)
def moveC (x y : Int) (c : Wc) : Wc := ⟨c.i, x, y, c.w, c.h, c.m, c.L⟩
def moveZ (C : List Wc) (id x y : Int) : Int := if askW C id = 0 then (if nearB x y then 0 else 3) else askW C id
def moveP (C : List Wc) (id x y : Int) : List Wc := if moveZ C id x y = 0 then modW id (moveC x y) C else []
theorem moveZ_bad {C : List Wc} {id x y : Int} (h : askW C id ≠ 0) : moveZ C id x y = askW C id := by unfold moveZ; rw [if_neg h]
theorem moveP_bad {C : List Wc} {id x y : Int} (h : askW C id ≠ 0) : moveP C id x y = [] := by unfold moveP; rw [moveZ_bad h, if_neg h]
theorem moveZ_far {C : List Wc} {id x y : Int} (h : askW C id = 0) (hn : nearB x y = false) : moveZ C id x y = 3 := by unfold moveZ; rw [if_pos h, hn]; rfl
theorem moveP_far {C : List Wc} {id x y : Int} (h : askW C id = 0) (hn : nearB x y = false) : moveP C id x y = [] := by unfold moveP; rw [moveZ_far h hn, if_neg (by decide)]
theorem moveZ_yes {C : List Wc} {id x y : Int} (h : askW C id = 0) (hn : nearB x y = true) : moveZ C id x y = 0 := by unfold moveZ; rw [if_pos h, hn]; rfl
theorem moveP_yes {L X Y : List Wn} {r : Wn} {id x y : Int} (h : stF (L.map Wn.ct) = 0) (hf : Fst id L X r Y) (hn : nearB x y = true) : moveP (L.map Wn.ct) id x y = X.map Wn.ct ++ moveC x y r.ct :: Y.map Wn.ct := by
  unfold moveP; rw [moveZ_yes (askW_yes h hf) hn, if_pos rfl, modW_at hf]
theorem near_yes {x y : Int} (h : nearB x y = true) : -20 ≤ x ∧ x ≤ 20 ∧ -20 ≤ y ∧ y ≤ 20 := by unfold nearB at h; simpa using h
theorem near_no {x y : Int} (h : nearB x y = false) : x < -20 ∨ 20 < x ∨ y < -20 ∨ 20 < y := by unfold nearB at h; simp at h; omega
theorem small_move {L : List Wn} (id x y : Int) (h : L.length + wzs L ≤ 1048576) : ∀ N : List Wn, N.map Wn.ct = moveP (L.map Wn.ct) id x y → N.length + wzs N ≤ 1048576 :=
  small_of (L := L) (by
    unfold moveP
    split
    · rw [modW_len, cz_mod (f := moveC x y) (fun c => rfl), cz_wzs, List.length_map]; exact h
    · simp [cz])

end Go.Proofs.Ytejgcheddloffaa
