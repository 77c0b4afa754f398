/- FnRequests: the law's walk. (Written by genrq.py.) -/
import Derived.Test.YtbceacnadkhdoaaGreatDoorV46
namespace Go.Proofs.YtbceacnadkhdoaaGreatDoor
open Go.RowKit
set_option linter.unusedVariables false
attribute [local go_sem high] sl_from sl_upto

/-- A reading's code, whatever else it tells. -/
def CodeQ (c : Int) (w2 : World) (v : Value) : Prop := ∃ x ao n ca bo m cb, v = .agg #[.int .i64 c, .int .i64 x, .slice ao n ca, .slice bo m cb]
theorem codeQ_made {f : FuncId} {args : Array Value} {w : World} {L : List Int} {c : Int} (hc : rdC L = c) (h : Calls Tryz.prog f args w (ReadAns w L)) : Calls Tryz.prog f args w fun e w'' => ∃ v, e = .returned v ∧ Below w.heap.size w w'' ∧ CodeQ c w'' v :=
  h.mono fun e w' ⟨ao, ca, bo, cb, mid, he, hb, _⟩ => ⟨_, he, hb, _, _, _, _, _, _, _, by rw [hc]⟩
/-- The bytes of a request that was read from L. -/
def PackV (L : List Int) (w2 : World) (v : Value) : Prop := ∃ g cp, v = .agg #[.int .i64 0, .slice (some ⟨g, 0, none⟩) (L.length + 1) cp] ∧ L.length + 1 ≤ cp ∧ Row .u8 w2 0 w2.heap.size (some ⟨g, 0, none⟩) ((L.length : Int) :: L)
theorem packV_made {lo hi : Nat} {k : Int} {ao bo : Option Addr} {ca cb : Nat} {A D L : List Int} {w : World} (hF : rF k A D.length = 0) (hL : bod k A D = L) (hA : Row .i64 w lo hi ao A) (hD : Row .u8 w lo hi bo D) (hs : hi ≤ w.heap.size) :
    Calls Tryz.prog 11 #[.agg #[.int .i64 k, .slice ao A.length ca, .slice bo D.length cb]] w fun e w'' => ∃ v, e = .returned v ∧ Below w.heap.size w w'' ∧ PackV L w'' v := by
  have h := iPack_any lo hi k ao bo ca cb A D w hA hD hs
  rw [hF, pkL_yes hF, hL] at h
  refine h.mono ?_
  rintro e w' ⟨ap, cp, rfl, O, kb⟩
  obtain ⟨g, c', hv, _, _⟩ := World.ownsRow.form O (by simp)
  injection hv with hv1 _ hv2
  subst hv1
  have hroom := O.roomP
  exact ⟨_, rfl, kb, g, cp, rfl, by simpa using hroom, O.wrt.row.wide (Nat.zero_le _) (Nat.le_refl _)⟩
theorem same_made {f : FuncId} {args : Array Value} {w : World} {v0 : Value} (h : Calls Tryz.prog f args w fun e w' => e = .returned v0 ∧ w' = w) : Calls Tryz.prog f args w fun e w' => e = .returned v0 ∧ Below w.heap.size w w' :=
  h.mono fun e w' ⟨he, hw⟩ => ⟨he, by rw [hw]; exact Below.refl _ _⟩
theorem text_D {l : List UInt8} (h : rdC (prL l) = 0) : (rdD (prL l)).all isB = true ∧ rF (rdK (prL l)) (rdA (prL l)) (rdD (prL l)).length = 0 := by
  cases hp : psT l with
  | none => rw [prL_none hp] at h; simp [rdC] at h
  | some L =>
    obtain ⟨ht, hb⟩ := txt_psT hp
    rw [prL_some hp] at h ⊢
    obtain ⟨e, hf⟩ := bod_read (fun i hi => hb _ (List.getElem_mem _)) h
    refine ⟨?_, hf⟩
    rw [List.all_eq_true]
    intro x hx
    have := hb x (by rw [← e]; unfold bod; simp [hx])
    simp [isB]; omega
def SaidV (v0 : Value) (w2 : World) (v : Value) : Prop := v = v0
theorem saidV_made {f : FuncId} {args : Array Value} {w : World} {v0 : Value} (h : Calls Tryz.prog f args w fun e w' => e = .returned v0 ∧ Below w.heap.size w w') : Calls Tryz.prog f args w fun e w'' => ∃ v, e = .returned v ∧ Below w.heap.size w w'' ∧ SaidV v0 w'' v :=
  h.mono fun e w' ⟨he, hb⟩ => ⟨_, he, hb, rfl⟩

theorem rdC_two (L : List Int) : rdC L = 5 ∨ rdC L = 0 := by
  unfold rdC
  split
  · exact .inl rfl
  · split
    · exact .inr rfl
    · exact .inl rfl
theorem all_byts {D : List Int} (h : byts D) : D.all isB = true := by
  rw [List.all_eq_true]
  intro x hx
  obtain ⟨i, hi, rfl⟩ := List.mem_iff_getElem.1 hx
  have := h i hi
  simp [isB]; omega
theorem bod_byts {k : Int} {A D : List Int} (h : rF k A D.length = 0) (hD : byts D) : byts (bod k A D) := by
  obtain ⟨_, _, k1, k2, hA⟩ := rF_lens h
  intro i hi
  have hm := List.getElem_mem hi
  generalize (bod k A D)[i] = x at hm ⊢
  unfold bod at hm
  rcases List.mem_cons.1 hm with rfl | hm
  · omega
  · rcases List.mem_append.1 hm with hm | hm
    · exact isB_yes (List.all_eq_true.1 hA x hm)
    · exact isB_yes (List.all_eq_true.1 (all_byts hD) x hm)
theorem tX_size {k : Int} {A D : List Int} (h : rF k A D.length = 0) : (tX k A D).size ≤ 200 := by
  obtain ⟨h1, h2, _⟩ := rF_lens h
  have h3 := txt_len (bod k A D)
  rw [bod_len] at h3
  rw [tX_yes h]
  show (txt (bod k A D)).toArray.size ≤ 200
  simp only [List.size_toArray]
  omega
/-- The code of bytes, whatever they are. -/
def PkC (c : Int) (w2 : World) (v : Value) : Prop := ∃ ao n ca, v = .agg #[.int .i64 c, .slice ao n ca]
theorem pkC_made {f : FuncId} {args : Array Value} {w : World} {c : Int} {P : List Int} (h : Calls Tryz.prog f args w fun e w' => ∃ ao' cap', e = .returned (.agg #[.int .i64 c, .slice ao' P.length cap']) ∧ OwnR .u8 5 w' w.heap.size ao' cap' P ∧ Below w.heap.size w w') : Calls Tryz.prog f args w fun e w'' => ∃ v, e = .returned v ∧ Below w.heap.size w w'' ∧ PkC c w'' v :=
  h.mono fun e w' ⟨ao, ca, he, _, hb⟩ => ⟨_, he, hb, ao, _, ca, rfl⟩
/-- A request that was read. -/
def QV (k : Int) (A D : List Int) (w2 : World) (v : Value) : Prop := ∃ ao ca bo cb, v = .agg #[.int .i64 0, .int .i64 k, .slice ao A.length ca, .slice bo D.length cb] ∧ Row .i64 w2 0 w2.heap.size ao A ∧ Row .u8 w2 0 w2.heap.size bo D
theorem qV_made {f : FuncId} {args : Array Value} {w : World} {k : Int} {A D L : List Int} (e : rdC L = 0 ∧ rdK L = k ∧ rdA L = A ∧ rdD L = D) (h : Calls Tryz.prog f args w (ReadAns w L)) : Calls Tryz.prog f args w fun e w'' => ∃ v, e = .returned v ∧ Below w.heap.size w w'' ∧ QV k A D w'' v := by
  obtain ⟨e1, e2, e3, e4⟩ := e
  refine h.mono ?_
  rintro e w' ⟨ao, ca, bo, cb, mid, rfl, hb, m1, m2, WA, WD⟩
  rw [e1, e2, e3, e4]
  rw [e3] at WA
  rw [e4] at WD
  exact ⟨_, rfl, hb, ao, ca, bo, cb, rfl, WA.row.wide (Nat.zero_le _) m2, WD.row.wide (Nat.zero_le _) (Nat.le_refl _)⟩
theorem sameT_made {f : FuncId} {args : Array Value} {w : World} {k : Int} {A D : List Int} (h : Calls Tryz.prog f args w fun e w' => e = .returned (.bool (sameQ k k A A D D)) ∧ Below w.heap.size w w') : Calls Tryz.prog f args w fun e w' => e = .returned (.bool true) ∧ Below w.heap.size w w' := by
  have e : sameQ k k A A D D = true := by simp [sameQ]
  rw [e] at h
  exact h
theorem fQ0 (c k : Int) (ao bo : Option Addr) (na ca nd cb : Nat) (w : World) : Sem.run Tryz.prog (Instr.field 29 (.agg #[.int .i64 c, .int .i64 k, .slice ao na ca, .slice bo nd cb]) 0) w = .ok (.int .i64 c) w := by kernel_rfl
theorem fQ1 (c k : Int) (ao bo : Option Addr) (na ca nd cb : Nat) (w : World) : Sem.run Tryz.prog (Instr.field 29 (.agg #[.int .i64 c, .int .i64 k, .slice ao na ca, .slice bo nd cb]) 1) w = .ok (.agg #[.int .i64 k, .slice ao na ca, .slice bo nd cb]) w := by kernel_rfl
theorem fB0 (c : Int) (ao : Option Addr) (na ca : Nat) (w : World) : Sem.run Tryz.prog (Instr.field 35 (.agg #[.int .i64 c, .slice ao na ca]) 0) w = .ok (.int .i64 c) w := by kernel_rfl
attribute [local go_sem high] fQ0 fQ1 fB0

set_option maxRecDepth 100000 in
set_option maxHeartbeats 20000000 in
theorem requests_small (a : Option Addr) (len cap : Nat) (f : Nat → Int) (w : World) (hB : Bytes w w.heap.size a len f) (hlm : len ≤ maxLen) (hl : len ≤ 1048576) (E0 : Env w) :
    Calls Tryz.prog 3 #[.slice a len cap] w fun e w' => e = .returned (.bool true) ∧ Below w.heap.size w w' := by
  have hd : decide ((1048576 : Int) < (len : Int)) = false := by simp; omega
  have HB := hideP hB
  have HE := hideP E0
  clear hB E0
  go_enter Tryz.func3, Tryz.ntmps3
  go_wp2_with fail
  refine Calls.mono (bigQ _ _ _ _ hlm) ?_
  rintro e w0 ⟨rfl, hw0⟩
  subst w0
  rw [hd]
  go_wp2_with fail
  refine Calls.mono (drawBody_any w a len cap f HB.out hl) ?_
  rintro e w1 ⟨bo, cb, L, rfl, hbL, hLl, hLc, k1, RL⟩
  have K1 := hideP k1
  have R1 := hideP RL
  have HbL := hideP hbL
  have n1 := k1.size
  clear k1 RL hbL
  go_wp2_with fail
  refine Calls.mono (iRead_any _ _ bo cb L w1 R1.out (Nat.le_refl _) hLc (by omega) HbL.out) ?_
  rintro e w2 ⟨ao2, ca2, bo2, cb2, mid2, rfl, k2, m1, m2, WA, WD⟩
  have K2 := hideP (K1.out.trans (k2.mono (by omega)))
  have R2 := hideP (R1.out.keep k2 (Nat.le_refl _))
  have n2 := k2.size
  obtain ⟨UC, hUC⟩ : ∃ UC, rdC L = UC := ⟨_, rfl⟩
  obtain ⟨UK, hUK⟩ : ∃ UK, rdK L = UK := ⟨_, rfl⟩
  obtain ⟨UA, hUA⟩ : ∃ UA, rdA L = UA := ⟨_, rfl⟩
  obtain ⟨UD, hUD⟩ : ∃ UD, rdD L = UD := ⟨_, rfl⟩
  rw [hUA] at WA
  rw [hUD] at WD
  rw [hUC, hUK, hUA, hUD]
  have U3 : Hid (QW (w2.alloc (.cells #[.int .i64 UC, .int .i64 UK, .slice ao2 UA.length ca2, .slice bo2 UD.length cb2] 29)) w2.heap.size w1.heap.size w2.heap.size UC UK ao2 bo2 ca2 cb2 UA UD) := hideP ⟨⟨by simp, by simp, by simp, by simp, by simp, by simp, by simp, by simp, by simp⟩, (WA.row.wide (Nat.le_refl _) m2).keep (B := w2.heap.size) ((Below.refl _ _).alloc (Nat.le_refl _) _) (Nat.le_refl _), (WD.row.wide m1 (Nat.le_refl _)).keep (B := w2.heap.size) ((Below.refl _ _).alloc (Nat.le_refl _) _) (Nat.le_refl _)⟩
  have HUq := hideP (And.intro hUC (And.intro hUK (And.intro hUA hUD)))
  clear k2 WA WD m1 m2 hUC hUK hUA hUD K1 R1
  go_wp2_with fail
  have ka : Below w2.heap.size w2 (w2.alloc (.cells #[.int .i64 UC, .int .i64 UK, .slice ao2 UA.length ca2, .slice bo2 UD.length cb2] 29)) := (Below.refl _ _).alloc (Nat.le_refl _) _
  have K3 := hideP (K2.out.trans (ka.mono (by omega)))
  have R3' := hideP (R2.out.keep ka (by omega))
  have n3 : w2.heap.size < (w2.alloc (.cells #[.int .i64 UC, .int .i64 UK, .slice ao2 UA.length ca2, .slice bo2 UD.length cb2] 29)).heap.size := by simp
  clear ka K2 R2
  generalize w2.alloc (.cells #[.int .i64 UC, .int .i64 UK, .slice ao2 UA.length ca2, .slice bo2 UD.length cb2] 29) = w3 at *
  refine Calls.mono (drawText_any w3 a len cap f (bytes_up (HB.out.belowR K3.out (Nat.le_refl _)) (by omega)) hl) ?_
  rintro e w4 ⟨s, rfl, hss, k4⟩
  have K4 := hideP (K3.out.trans (k4.mono (by omega)))
  have R4' := hideP (R3'.out.keep k4 (by omega))
  have U4 := hideP (U3.out.keep k4 n3 (by omega))
  have E4 := hideP (HE.out.keep K4.out)
  have n4 := k4.size
  clear k4 K3 R3' U3
  go_wp2_with fail
  refine Calls.mono (iParse_any s w4 E4.out (by omega)) ?_
  rintro e w4b ⟨ao3, ca3, bo3, cb3, mid3, rfl, k4b, m1, m2, WA, WD⟩
  obtain ⟨VC, hVC⟩ : ∃ VC, rdC (prL s.data.toList) = VC := ⟨_, rfl⟩
  obtain ⟨VK, hVK⟩ : ∃ VK, rdK (prL s.data.toList) = VK := ⟨_, rfl⟩
  obtain ⟨VA, hVA⟩ : ∃ VA, rdA (prL s.data.toList) = VA := ⟨_, rfl⟩
  obtain ⟨VD, hVD⟩ : ∃ VD, rdD (prL s.data.toList) = VD := ⟨_, rfl⟩
  rw [hVA] at WA
  rw [hVD] at WD
  rw [hVC, hVK, hVA, hVD]
  have V5 : Hid (QW (w4b.alloc (.cells #[.int .i64 VC, .int .i64 VK, .slice ao3 VA.length ca3, .slice bo3 VD.length cb3] 29)) w4b.heap.size w4.heap.size w4b.heap.size VC VK ao3 bo3 ca3 cb3 VA VD) := hideP ⟨⟨by simp, by simp, by simp, by simp, by simp, by simp, by simp, by simp, by simp⟩, (WA.row.wide (Nat.le_refl _) m2).keep (B := w4b.heap.size) ((Below.refl _ _).alloc (Nat.le_refl _) _) (Nat.le_refl _), (WD.row.wide m1 (Nat.le_refl _)).keep (B := w4b.heap.size) ((Below.refl _ _).alloc (Nat.le_refl _) _) (Nat.le_refl _)⟩
  have HVq := hideP (And.intro hVC (And.intro hVK (And.intro hVA hVD)))
  have K5 := hideP (K4.out.trans (k4b.mono (by omega)))
  have R5 := hideP (R4'.out.keep k4b (by omega))
  have U5' := hideP (U4.out.keep k4b (by omega) (by omega))
  have n5 := k4b.size
  clear k4b WA WD m1 m2 hVC hVK hVA hVD K4 R4' U4 E4
  go_wp2_with fail
  have ka : Below w4b.heap.size w4b (w4b.alloc (.cells #[.int .i64 VC, .int .i64 VK, .slice ao3 VA.length ca3, .slice bo3 VD.length cb3] 29)) := (Below.refl _ _).alloc (Nat.le_refl _) _
  have K6 := hideP (K5.out.trans (ka.mono (by omega)))
  have R6 := hideP (R5.out.keep ka (by omega))
  have U6 := hideP (U5'.out.keep ka (by omega) (by omega))
  have n6 : w4b.heap.size < (w4b.alloc (.cells #[.int .i64 VC, .int .i64 VK, .slice ao3 VA.length ca3, .slice bo3 VD.length cb3] 29)).heap.size := by simp
  clear ka K5 R5 U5'
  generalize w4b.alloc (.cells #[.int .i64 VC, .int .i64 VK, .slice ao3 VA.length ca3, .slice bo3 VD.length cb3] 29) = w6 at *
  refine Calls.mono (drawArgs_any w6 a len cap f (bytes_up (HB.out.belowR K6.out (Nat.le_refl _)) (by omega)) hl) ?_
  rintro e w5 ⟨kk, rfl, kk0, kk1, k7⟩
  have K7 := hideP (K6.out.trans (k7.mono (by omega)))
  have R7 := hideP (R6.out.keep k7 (by omega))
  have U7 := hideP (U6.out.keep k7 (by omega) (by omega))
  have V7 := hideP (V5.out.keep k7 n6 (by omega))
  have E7 := hideP (HE.out.keep K7.out)
  have n7 := k7.size
  have nu : w2.heap.size < w5.heap.size := by omega
  have nv : w4b.heap.size < w5.heap.size := by omega
  clear k7 K6 R6 U6 V5
  have SRB : Hid (∀ w', Kept w5 w' → Calls Tryz.prog 10 #[.slice bo L.length cb] w' (ReadAns w' L)) := hideP (fun w' kw => sRead_any _ _ bo cb L w' (R7.out.keep (Kept.below kw) (by omega)) (by have := Below.size kw; omega) hLc (by omega) HbL.out)
  have SPT : Hid (∀ w', Kept w5 w' → Calls Tryz.prog 13 #[.string s] w' (ReadAns w' (prL s.data.toList))) := hideP (fun w' _ => sParse_any s w' (by omega))
  have hU := HUq.out.1
  have hV := HVq.out.1
  have HhU := hideP hU
  have HhV := hideP hV
  clear hU hV
  obtain ⟨u0, u1, u2, u3, u4, u5, u6, u7, u8⟩ := U7.out.box
  obtain ⟨v0, v1, v2, v3, v4, v5, v6, v7, v8⟩ := V7.out.box
  go_wp2
  try simp only [List.append_eq]
  try simp only [List.cons_append]
  try simp only [List.nil_append]
  obtain ⟨M, hM⟩ : ∃ M : Exit → Act → World → Prop, M = fun ex a' w' => ex = Exit.normal ∧ Kept w5 w' ∧ ∃ y11 y12 y13 y14 y15 y16 y17 y18 y19 y20 y21 y22 y23 y24 y25 y26 y27 y28 y29 y30 y31 y32 y33 y34 y35 y36 y37 y38 y39 y40 y41 y42 y43 y44 y45 y46 y47 y48 y49 y50 y51 y52 y53 y54 y55 y56 y57 y58 y59 y60 y61 y62 y63 y64 y65 y66 y67 y68 y69 y70 y71 y72 y73 y74 y75 y76 y77 y78 y79 y80 y81 y82 y83 y84 y85 y86 y87 y88 y89 y90 y91 y92 : Value, a' = (⟨#[.slice a len cap, undef, .bool false, .slice bo L.length cb, .pointer (some ⟨w2.heap.size, 0, none⟩), .string s, .pointer (some ⟨w4b.heap.size, 0, none⟩), .int .i64 kk, undef, undef, undef, y11, y12, y13, y14, y15, y16, y17, y18, y19, y20, y21, y22, y23, y24, y25, y26, y27, y28, y29, y30, y31, y32, y33, y34, y35, y36, y37, y38, y39, y40, y41, y42, y43, y44, y45, y46, y47, y48, y49, y50, y51, y52, y53, y54, y55, y56, y57, y58, y59, y60, y61, y62, y63, y64, y65, y66, y67, y68, y69, y70, y71, y72, y73, y74, y75, y76, y77, y78, y79, y80, y81, y82, y83, y84, y85, y86, y87, y88, y89, y90, y91, y92, .bool false, undef, undef, undef, undef, undef, undef, undef, undef, undef, undef, undef, undef, undef, undef, undef, undef, undef, undef, undef, undef, undef, undef, undef, undef, undef, undef, undef, undef, undef, undef, undef, undef, undef, undef, undef, undef, undef, undef, undef, undef, undef, undef, undef, undef, undef, undef, undef, undef, undef, undef, undef, undef, undef, undef, undef, undef, undef, undef, undef, undef, undef, undef, undef, undef, undef, undef, undef, undef], []⟩ : Act) := ⟨_, rfl⟩
  refine Code.wp_mono (Q := M) ?tail ?reg
  case reg =>
    rcases rdC_two L with hu | hu
    · rcases rdC_two (prL s.data.toList) with hv | hv
      · as_aux_lemma =>
          have hUCx : UC = 5 := by rw [← HhU.out]; exact hu
          have hVCx : VC = 5 := by rw [← HhV.out]; exact hv
          subst hUCx
          subst hVCx
          clear hu hv
          refine wp_region_held (S := Kept w5) (by kernel_rfl) ?_
          show wpAnyH _ _ _ _ _ 71 (Array.replicate 71 false) _ (w5).drew
          have hK0 : Kept (w5) (w5).drew := (Below.refl _ _).drew
          have hQ : ∀ c a d v w, M (.panic c) (Act.put a d v) w → M (.panic c) a w := by
            rw [hM]
            intro c a d v w h
            cases h.1
          refine held_take (i := 0) rfl (by kernel_rfl) (by kernel_rfl) (by kernel_rfl) hQ hK0 (by rfl) ?_
          apply Exists.intro
          refine ⟨fun w1 k1 => ?_, fun K hK => ?_⟩
          · have hc := Kept.cell k1
            go_simp
            first | done | rfl
          go_simp
          refine hK _ ?_
          clear hK K
          refine held_take (i := 1) rfl (by kernel_rfl) (by kernel_rfl) (by kernel_rfl) hQ hK0 (by rfl) ?_
          apply Exists.intro
          refine ⟨fun w1 k1 => ?_, fun K hK => ?_⟩
          · have hc := Kept.cell k1
            go_simp
            first | done | rfl
          go_simp
          refine hK _ ?_
          clear hK K
          refine held_take (i := 2) rfl (by kernel_rfl) (by kernel_rfl) (by kernel_rfl) hQ hK0 (by rfl) ?_
          apply Exists.intro
          refine ⟨fun w1 k1 => ?_, fun K hK => ?_⟩
          · have hc := Kept.cell k1
            go_simp
            first | done | rfl
          go_simp
          refine hK _ ?_
          clear hK K
          refine held_one (i := 3) rfl (by kernel_rfl) (by rfl) ?_
          refine wp_of_made (L := CodeQ 5) ?_ ?_
          · exact made_call (by go_simp; first | done | rfl) (codeQ_made HhU.out (SRB.out _ hK0))
          rintro x1 v hb ⟨e1, e2, e3, e4, e5, e6, e7, rfl⟩
          have hK1 := Kept.trans hK0 hb
          refine ⟨hK1, ?_⟩
          refine norm_act fun K hK => ?_
          go_simp
          refine hK _ ?_
          clear hK K
          refine held_take (i := 4) rfl (by kernel_rfl) (by kernel_rfl) (by kernel_rfl) hQ hK1 (by rfl) ?_
          apply Exists.intro
          refine ⟨fun w1 k1 => ?_, fun K hK => ?_⟩
          · have hc := Kept.cell k1
            go_simp
            first | done | rfl
          go_simp
          refine hK _ ?_
          clear hK K
          refine held_take (i := 5) rfl (by kernel_rfl) (by kernel_rfl) (by kernel_rfl) hQ hK1 (by rfl) ?_
          apply Exists.intro
          refine ⟨fun w1 k1 => ?_, fun K hK => ?_⟩
          · have hc := Kept.cell k1
            go_simp
            first | done | rfl
          go_simp
          refine hK _ ?_
          clear hK K
          refine held_take (i := 6) rfl (by kernel_rfl) (by kernel_rfl) (by kernel_rfl) hQ hK1 (by rfl) ?_
          apply Exists.intro
          refine ⟨fun w1 k1 => ?_, fun K hK => ?_⟩
          · have hc := Kept.cell k1
            go_simp
            first | done | rfl
          go_simp
          refine hK _ ?_
          clear hK K
          refine held_take (i := 7) rfl (by kernel_rfl) (by kernel_rfl) (by kernel_rfl) hQ hK1 (by rfl) ?_
          apply Exists.intro
          refine ⟨fun w1 k1 => ?_, fun K hK => ?_⟩
          · have hc := Kept.cell k1
            go_simp
            first | done | rfl
          go_simp
          refine hK _ ?_
          clear hK K
          refine held_take (i := 8) rfl (by kernel_rfl) (by kernel_rfl) (by kernel_rfl) hQ hK1 (by rfl) ?_
          apply Exists.intro
          refine ⟨fun w1 k1 => ?_, fun K hK => ?_⟩
          · have hc := Kept.cell k1
            go_simp
            first | done | rfl
          go_simp
          refine hK _ ?_
          clear hK K
          refine held_take (i := 9) rfl (by kernel_rfl) (by kernel_rfl) (by kernel_rfl) hQ hK1 (by rfl) ?_
          apply Exists.intro
          refine ⟨fun w1 k1 => ?_, fun K hK => ?_⟩
          · have hc := Kept.cell k1
            go_simp
            first | done | rfl
          go_simp
          refine hK _ ?_
          clear hK K
          refine held_take (i := 10) rfl (by kernel_rfl) (by kernel_rfl) (by kernel_rfl) hQ hK1 (by rfl) ?_
          apply Exists.intro
          refine ⟨fun w1 k1 => ?_, fun K hK => ?_⟩
          · have hc := Kept.cell k1
            go_simp
            first | done | rfl
          go_simp
          refine hK _ ?_
          clear hK K
          refine held_skip (i := 11) rfl (by kernel_rfl) (by kernel_rfl) (by kernel_rfl) hQ hK1 (by rfl) ?_
          intro K hK
          go_simp
          refine hK _ ?_
          clear hK K
          refine held_skip (i := 12) rfl (by kernel_rfl) (by kernel_rfl) (by kernel_rfl) hQ hK1 (by rfl) ?_
          intro K hK
          go_simp
          refine hK _ ?_
          clear hK K
          refine held_skip (i := 13) rfl (by kernel_rfl) (by kernel_rfl) (by kernel_rfl) hQ hK1 (by rfl) ?_
          intro K hK
          go_simp
          refine hK _ ?_
          clear hK K
          refine held_skip (i := 14) rfl (by kernel_rfl) (by kernel_rfl) (by kernel_rfl) hQ hK1 (by rfl) ?_
          intro K hK
          go_simp
          refine hK _ ?_
          clear hK K
          refine held_skip (i := 15) rfl (by kernel_rfl) (by kernel_rfl) (by kernel_rfl) hQ hK1 (by rfl) ?_
          intro K hK
          go_simp
          refine hK _ ?_
          clear hK K
          refine held_skip (i := 16) rfl (by kernel_rfl) (by kernel_rfl) (by kernel_rfl) hQ hK1 (by rfl) ?_
          intro K hK
          go_simp
          refine hK _ ?_
          clear hK K
          refine held_skip (i := 17) rfl (by kernel_rfl) (by kernel_rfl) (by kernel_rfl) hQ hK1 (by rfl) ?_
          intro K hK
          go_simp
          refine hK _ ?_
          clear hK K
          refine held_skip (i := 18) rfl (by kernel_rfl) (by kernel_rfl) (by kernel_rfl) hQ hK1 (by rfl) ?_
          intro K hK
          go_simp
          refine hK _ ?_
          clear hK K
          refine held_skip (i := 19) rfl (by kernel_rfl) (by kernel_rfl) (by kernel_rfl) hQ hK1 (by rfl) ?_
          intro K hK
          go_simp
          refine hK _ ?_
          clear hK K
          refine held_skip (i := 20) rfl (by kernel_rfl) (by kernel_rfl) (by kernel_rfl) hQ hK1 (by rfl) ?_
          intro K hK
          go_simp
          refine hK _ ?_
          clear hK K
          refine held_skip (i := 21) rfl (by kernel_rfl) (by kernel_rfl) (by kernel_rfl) hQ hK1 (by rfl) ?_
          intro K hK
          go_simp
          refine hK _ ?_
          clear hK K
          refine held_skip (i := 22) rfl (by kernel_rfl) (by kernel_rfl) (by kernel_rfl) hQ hK1 (by rfl) ?_
          intro K hK
          go_simp
          refine hK _ ?_
          clear hK K
          refine held_skip (i := 23) rfl (by kernel_rfl) (by kernel_rfl) (by kernel_rfl) hQ hK1 (by rfl) ?_
          intro K hK
          go_simp
          refine hK _ ?_
          clear hK K
          refine held_skip (i := 24) rfl (by kernel_rfl) (by kernel_rfl) (by kernel_rfl) hQ hK1 (by rfl) ?_
          intro K hK
          go_simp
          refine hK _ ?_
          clear hK K
          refine held_skip (i := 25) rfl (by kernel_rfl) (by kernel_rfl) (by kernel_rfl) hQ hK1 (by rfl) ?_
          intro K hK
          go_simp
          refine hK _ ?_
          clear hK K
          refine held_skip (i := 26) rfl (by kernel_rfl) (by kernel_rfl) (by kernel_rfl) hQ hK1 (by rfl) ?_
          intro K hK
          go_simp
          refine hK _ ?_
          clear hK K
          refine held_skip (i := 27) rfl (by kernel_rfl) (by kernel_rfl) (by kernel_rfl) hQ hK1 (by rfl) ?_
          intro K hK
          go_simp
          refine hK _ ?_
          clear hK K
          refine held_skip (i := 28) rfl (by kernel_rfl) (by kernel_rfl) (by kernel_rfl) hQ hK1 (by rfl) ?_
          intro K hK
          go_simp
          refine hK _ ?_
          clear hK K
          refine held_skip (i := 29) rfl (by kernel_rfl) (by kernel_rfl) (by kernel_rfl) hQ hK1 (by rfl) ?_
          intro K hK
          go_simp
          refine hK _ ?_
          clear hK K
          refine held_take (i := 30) rfl (by kernel_rfl) (by kernel_rfl) (by kernel_rfl) hQ hK1 (by rfl) ?_
          apply Exists.intro
          refine ⟨fun w1 k1 => ?_, fun K hK => ?_⟩
          · have hc := Kept.cell k1
            go_simp
            first | done | rfl
          go_simp
          refine hK _ ?_
          clear hK K
          refine held_take (i := 31) rfl (by kernel_rfl) (by kernel_rfl) (by kernel_rfl) hQ hK1 (by rfl) ?_
          apply Exists.intro
          refine ⟨fun w1 k1 => ?_, fun K hK => ?_⟩
          · have hc := Kept.cell k1
            go_simp
            first | done | rfl
          go_simp
          refine hK _ ?_
          clear hK K
          refine held_take (i := 32) rfl (by kernel_rfl) (by kernel_rfl) (by kernel_rfl) hQ hK1 (by rfl) ?_
          apply Exists.intro
          refine ⟨fun w1 k1 => ?_, fun K hK => ?_⟩
          · have hc := Kept.cell k1
            go_simp
            first | done | rfl
          go_simp
          refine hK _ ?_
          clear hK K
          refine held_take (i := 33) rfl (by kernel_rfl) (by kernel_rfl) (by kernel_rfl) hQ hK1 (by rfl) ?_
          apply Exists.intro
          refine ⟨fun w1 k1 => ?_, fun K hK => ?_⟩
          · have hc := Kept.cell k1
            go_simp
            first | done | rfl
          go_simp
          refine hK _ ?_
          clear hK K
          refine held_take (i := 34) rfl (by kernel_rfl) (by kernel_rfl) (by kernel_rfl) hQ hK1 (by rfl) ?_
          apply Exists.intro
          refine ⟨fun w1 k1 => ?_, fun K hK => ?_⟩
          · have hc := Kept.cell k1
            go_simp
            first | done | rfl
          go_simp
          refine hK _ ?_
          clear hK K
          refine held_take (i := 35) rfl (by kernel_rfl) (by kernel_rfl) (by kernel_rfl) hQ hK1 (by rfl) ?_
          apply Exists.intro
          refine ⟨fun w1 k1 => ?_, fun K hK => ?_⟩
          · have hc := Kept.cell k1
            go_simp
            first | done | rfl
          go_simp
          refine hK _ ?_
          clear hK K
          refine held_one (i := 36) rfl (by kernel_rfl) (by rfl) ?_
          refine wp_of_made (L := CodeQ 5) ?_ ?_
          · exact made_call (by go_simp; first | done | rfl) (codeQ_made HhV.out (SPT.out _ hK1))
          rintro x2 v hb ⟨e1, e2, e3, e4, e5, e6, e7, rfl⟩
          have hK2 := Kept.trans hK1 hb
          refine ⟨hK2, ?_⟩
          refine norm_act fun K hK => ?_
          go_simp
          refine hK _ ?_
          clear hK K
          refine held_take (i := 37) rfl (by kernel_rfl) (by kernel_rfl) (by kernel_rfl) hQ hK2 (by rfl) ?_
          apply Exists.intro
          refine ⟨fun w1 k1 => ?_, fun K hK => ?_⟩
          · have hc := Kept.cell k1
            go_simp
            first | done | rfl
          go_simp
          refine hK _ ?_
          clear hK K
          refine held_take (i := 38) rfl (by kernel_rfl) (by kernel_rfl) (by kernel_rfl) hQ hK2 (by rfl) ?_
          apply Exists.intro
          refine ⟨fun w1 k1 => ?_, fun K hK => ?_⟩
          · have hc := Kept.cell k1
            go_simp
            first | done | rfl
          go_simp
          refine hK _ ?_
          clear hK K
          refine held_take (i := 39) rfl (by kernel_rfl) (by kernel_rfl) (by kernel_rfl) hQ hK2 (by rfl) ?_
          apply Exists.intro
          refine ⟨fun w1 k1 => ?_, fun K hK => ?_⟩
          · have hc := Kept.cell k1
            go_simp
            first | done | rfl
          go_simp
          refine hK _ ?_
          clear hK K
          refine held_take (i := 40) rfl (by kernel_rfl) (by kernel_rfl) (by kernel_rfl) hQ hK2 (by rfl) ?_
          apply Exists.intro
          refine ⟨fun w1 k1 => ?_, fun K hK => ?_⟩
          · have hc := Kept.cell k1
            go_simp
            first | done | rfl
          go_simp
          refine hK _ ?_
          clear hK K
          refine held_take (i := 41) rfl (by kernel_rfl) (by kernel_rfl) (by kernel_rfl) hQ hK2 (by rfl) ?_
          apply Exists.intro
          refine ⟨fun w1 k1 => ?_, fun K hK => ?_⟩
          · have hc := Kept.cell k1
            go_simp
            first | done | rfl
          go_simp
          refine hK _ ?_
          clear hK K
          refine held_take (i := 42) rfl (by kernel_rfl) (by kernel_rfl) (by kernel_rfl) hQ hK2 (by rfl) ?_
          apply Exists.intro
          refine ⟨fun w1 k1 => ?_, fun K hK => ?_⟩
          · have hc := Kept.cell k1
            go_simp
            first | done | rfl
          go_simp
          refine hK _ ?_
          clear hK K
          refine held_take (i := 43) rfl (by kernel_rfl) (by kernel_rfl) (by kernel_rfl) hQ hK2 (by rfl) ?_
          apply Exists.intro
          refine ⟨fun w1 k1 => ?_, fun K hK => ?_⟩
          · have hc := Kept.cell k1
            go_simp
            first | done | rfl
          go_simp
          refine hK _ ?_
          clear hK K
          refine held_take (i := 44) rfl (by kernel_rfl) (by kernel_rfl) (by kernel_rfl) hQ hK2 (by rfl) ?_
          apply Exists.intro
          refine ⟨fun w1 k1 => ?_, fun K hK => ?_⟩
          · have hc := Kept.cell k1
            go_simp
            first | done | rfl
          go_simp
          refine hK _ ?_
          clear hK K
          refine held_skip (i := 45) rfl (by kernel_rfl) (by kernel_rfl) (by kernel_rfl) hQ hK2 (by rfl) ?_
          intro K hK
          go_simp
          refine hK _ ?_
          clear hK K
          refine held_skip (i := 46) rfl (by kernel_rfl) (by kernel_rfl) (by kernel_rfl) hQ hK2 (by rfl) ?_
          intro K hK
          go_simp
          refine hK _ ?_
          clear hK K
          refine held_skip (i := 47) rfl (by kernel_rfl) (by kernel_rfl) (by kernel_rfl) hQ hK2 (by rfl) ?_
          intro K hK
          go_simp
          refine hK _ ?_
          clear hK K
          refine held_skip (i := 48) rfl (by kernel_rfl) (by kernel_rfl) (by kernel_rfl) hQ hK2 (by rfl) ?_
          intro K hK
          go_simp
          refine hK _ ?_
          clear hK K
          refine held_skip (i := 49) rfl (by kernel_rfl) (by kernel_rfl) (by kernel_rfl) hQ hK2 (by rfl) ?_
          intro K hK
          go_simp
          refine hK _ ?_
          clear hK K
          refine held_skip (i := 50) rfl (by kernel_rfl) (by kernel_rfl) (by kernel_rfl) hQ hK2 (by rfl) ?_
          intro K hK
          go_simp
          refine hK _ ?_
          clear hK K
          refine held_take (i := 51) rfl (by kernel_rfl) (by kernel_rfl) (by kernel_rfl) hQ hK2 (by rfl) ?_
          apply Exists.intro
          refine ⟨fun w1 k1 => ?_, fun K hK => ?_⟩
          · have hc := Kept.cell k1
            go_simp
            first | done | rfl
          go_simp
          refine hK _ ?_
          clear hK K
          refine held_take (i := 52) rfl (by kernel_rfl) (by kernel_rfl) (by kernel_rfl) hQ hK2 (by rfl) ?_
          apply Exists.intro
          refine ⟨fun w1 k1 => ?_, fun K hK => ?_⟩
          · have hc := Kept.cell k1
            go_simp
            first | done | rfl
          go_simp
          refine hK _ ?_
          clear hK K
          refine held_take (i := 53) rfl (by kernel_rfl) (by kernel_rfl) (by kernel_rfl) hQ hK2 (by rfl) ?_
          apply Exists.intro
          refine ⟨fun w1 k1 => ?_, fun K hK => ?_⟩
          · have hc := Kept.cell k1
            go_simp
            first | done | rfl
          go_simp
          refine hK _ ?_
          clear hK K
          refine held_take (i := 54) rfl (by kernel_rfl) (by kernel_rfl) (by kernel_rfl) hQ hK2 (by rfl) ?_
          apply Exists.intro
          refine ⟨fun w1 k1 => ?_, fun K hK => ?_⟩
          · have hc := Kept.cell k1
            go_simp
            first | done | rfl
          go_simp
          refine hK _ ?_
          clear hK K
          refine held_take (i := 57) rfl (by kernel_rfl) (by kernel_rfl) (by kernel_rfl) hQ hK2 (by rfl) ?_
          apply Exists.intro
          refine ⟨fun w1 k1 => ?_, fun K hK => ?_⟩
          · have hc := Kept.cell k1
            go_simp
            first | done | rfl
          go_simp
          refine hK _ ?_
          clear hK K
          refine held_one (i := 55) rfl (by kernel_rfl) (by rfl) ?_
          refine wp_of_made (L := SaidV (.agg #[.int .i64 (aC kk), .int .i64 (aN kk)])) ?_ ?_
          · exact made_call (by go_simp; first | done | rfl) (saidV_made (iArgs_any kk _))
          rintro x3 v hb ⟨⟩
          have hK3 := Kept.trans hK2 hb
          refine ⟨hK3, ?_⟩
          refine norm_act fun K hK => ?_
          go_simp
          refine hK _ ?_
          clear hK K
          refine held_take (i := 56) rfl (by kernel_rfl) (by kernel_rfl) (by kernel_rfl) hQ hK3 (by rfl) ?_
          apply Exists.intro
          refine ⟨fun w1 k1 => ?_, fun K hK => ?_⟩
          · have hc := Kept.cell k1
            go_simp
            first | done | rfl
          go_simp
          refine hK _ ?_
          clear hK K
          refine held_one (i := 58) rfl (by kernel_rfl) (by rfl) ?_
          refine wp_of_made (L := SaidV (.agg #[.int .i64 (aC kk), .int .i64 (aN kk)])) ?_ ?_
          · exact made_call (by go_simp; first | done | rfl) (saidV_made (sArgs_any kk _))
          rintro x4 v hb ⟨⟩
          have hK4 := Kept.trans hK3 hb
          refine ⟨hK4, ?_⟩
          refine norm_act fun K hK => ?_
          go_simp
          refine hK _ ?_
          clear hK K
          refine held_take (i := 59) rfl (by kernel_rfl) (by kernel_rfl) (by kernel_rfl) hQ hK4 (by rfl) ?_
          apply Exists.intro
          refine ⟨fun w1 k1 => ?_, fun K hK => ?_⟩
          · have hc := Kept.cell k1
            go_simp
            first | done | rfl
          go_simp
          refine hK _ ?_
          clear hK K
          refine held_take (i := 60) rfl (by kernel_rfl) (by kernel_rfl) (by kernel_rfl) hQ hK4 (by rfl) ?_
          apply Exists.intro
          refine ⟨fun w1 k1 => ?_, fun K hK => ?_⟩
          · have hc := Kept.cell k1
            go_simp
            first | done | rfl
          go_simp
          refine hK _ ?_
          clear hK K
          refine held_take (i := 61) rfl (by kernel_rfl) (by kernel_rfl) (by kernel_rfl) hQ hK4 (by rfl) ?_
          apply Exists.intro
          refine ⟨fun w1 k1 => ?_, fun K hK => ?_⟩
          · have hc := Kept.cell k1
            go_simp
            first | done | rfl
          go_simp
          refine hK _ ?_
          clear hK K
          refine held_take (i := 62) rfl (by kernel_rfl) (by kernel_rfl) (by kernel_rfl) hQ hK4 (by rfl) ?_
          apply Exists.intro
          refine ⟨fun w1 k1 => ?_, fun K hK => ?_⟩
          · have hc := Kept.cell k1
            go_simp
            first | done | rfl
          go_simp
          refine hK _ ?_
          clear hK K
          refine held_take (i := 63) rfl (by kernel_rfl) (by kernel_rfl) (by kernel_rfl) hQ hK4 (by rfl) ?_
          apply Exists.intro
          refine ⟨fun w1 k1 => ?_, fun K hK => ?_⟩
          · have hc := Kept.cell k1
            go_simp
            first | done | rfl
          go_simp
          refine hK _ ?_
          clear hK K
          refine held_take (i := 66) rfl (by kernel_rfl) (by kernel_rfl) (by kernel_rfl) hQ hK4 (by rfl) ?_
          apply Exists.intro
          refine ⟨fun w1 k1 => ?_, fun K hK => ?_⟩
          · have hc := Kept.cell k1
            go_simp
            first | done | rfl
          go_simp
          refine hK _ ?_
          clear hK K
          refine held_one (i := 64) rfl (by kernel_rfl) (by rfl) ?_
          refine wp_of_made (L := SaidV (.agg #[.int .i64 (aC kk), .int .i64 (aN kk)])) ?_ ?_
          · exact made_call (by go_simp; first | done | rfl) (saidV_made (iArgs_any kk _))
          rintro x5 v hb ⟨⟩
          have hK5 := Kept.trans hK4 hb
          refine ⟨hK5, ?_⟩
          refine norm_act fun K hK => ?_
          go_simp
          refine hK _ ?_
          clear hK K
          refine held_take (i := 65) rfl (by kernel_rfl) (by kernel_rfl) (by kernel_rfl) hQ hK5 (by rfl) ?_
          apply Exists.intro
          refine ⟨fun w1 k1 => ?_, fun K hK => ?_⟩
          · have hc := Kept.cell k1
            go_simp
            first | done | rfl
          go_simp
          refine hK _ ?_
          clear hK K
          refine held_one (i := 67) rfl (by kernel_rfl) (by rfl) ?_
          refine wp_of_made (L := SaidV (.agg #[.int .i64 (aC kk), .int .i64 (aN kk)])) ?_ ?_
          · exact made_call (by go_simp; first | done | rfl) (saidV_made (sArgs_any kk _))
          rintro x6 v hb ⟨⟩
          have hK6 := Kept.trans hK5 hb
          refine ⟨hK6, ?_⟩
          refine norm_act fun K hK => ?_
          go_simp
          refine hK _ ?_
          clear hK K
          refine held_take (i := 68) rfl (by kernel_rfl) (by kernel_rfl) (by kernel_rfl) hQ hK6 (by rfl) ?_
          apply Exists.intro
          refine ⟨fun w1 k1 => ?_, fun K hK => ?_⟩
          · have hc := Kept.cell k1
            go_simp
            first | done | rfl
          go_simp
          refine hK _ ?_
          clear hK K
          refine held_take (i := 69) rfl (by kernel_rfl) (by kernel_rfl) (by kernel_rfl) hQ hK6 (by rfl) ?_
          apply Exists.intro
          refine ⟨fun w1 k1 => ?_, fun K hK => ?_⟩
          · have hc := Kept.cell k1
            go_simp
            first | done | rfl
          go_simp
          refine hK _ ?_
          clear hK K
          refine held_take (i := 70) rfl (by kernel_rfl) (by kernel_rfl) (by kernel_rfl) hQ hK6 (by rfl) ?_
          apply Exists.intro
          refine ⟨fun w1 k1 => ?_, fun K hK => ?_⟩
          · have hc := Kept.cell k1
            go_simp
            first | done | rfl
          go_simp
          refine hK _ ?_
          clear hK K
          refine wpAnyH_done (by kernel_rfl) ?_ _
          rw [hM]
          exact ⟨rfl, hK6, _, _, _, _, _, _, _, _, _, _, _, _, _, _, _, _, _, _, _, _, _, _, _, _, _, _, _, _, _, _, _, _, _, _, _, _, _, _, _, _, _, _, _, _, _, _, _, _, _, _, _, _, _, _, _, _, _, _, _, _, _, _, _, _, _, _, _, _, _, _, _, _, _, _, _, _, _, _, _, _, _, _, rfl⟩
      · as_aux_lemma =>
          have hUCx : UC = 5 := by rw [← HhU.out]; exact hu
          have hVCx : VC = 0 := by rw [← HhV.out]; exact hv
          subst hUCx
          subst hVCx
          clear hu hv
          have HTX : Hid (∀ w', Kept w5 w' → Calls Tryz.prog 14 #[.agg #[.int .i64 VK, .slice ao3 VA.length ca3, .slice bo3 VD.length cb3]] w' fun e w'' => e = .returned (.agg #[.int .i64 0, .string s]) ∧ Below w'.heap.size w' w'') := hideP (fun w' kw => by
            obtain ⟨t1, t2⟩ := text_D HhV.out
            have t3 := text_read HhV.out
            rw [HVq.out.2.1, HVq.out.2.2.1, HVq.out.2.2.2] at t2 t3
            rw [HVq.out.2.2.2] at t1
            have h := iText_any _ _ VK ao3 bo3 ca3 cb3 VA VD w' (V7.out.rowA.keep (Kept.below kw) (by omega)) (V7.out.rowD.keep (Kept.below kw) (by omega)) (by have := Below.size kw; omega) t1 (E7.out.keep (Kept.below kw)).tens
            rw [t2, t3] at h
            simpa using h)
          refine wp_region_held (S := Kept w5) (by kernel_rfl) ?_
          show wpAnyH _ _ _ _ _ 71 (Array.replicate 71 false) _ (w5).drew
          have hK0 : Kept (w5) (w5).drew := (Below.refl _ _).drew
          have hQ : ∀ c a d v w, M (.panic c) (Act.put a d v) w → M (.panic c) a w := by
            rw [hM]
            intro c a d v w h
            cases h.1
          refine held_take (i := 0) rfl (by kernel_rfl) (by kernel_rfl) (by kernel_rfl) hQ hK0 (by rfl) ?_
          apply Exists.intro
          refine ⟨fun w1 k1 => ?_, fun K hK => ?_⟩
          · have hc := Kept.cell k1
            go_simp
            first | done | rfl
          go_simp
          refine hK _ ?_
          clear hK K
          refine held_take (i := 1) rfl (by kernel_rfl) (by kernel_rfl) (by kernel_rfl) hQ hK0 (by rfl) ?_
          apply Exists.intro
          refine ⟨fun w1 k1 => ?_, fun K hK => ?_⟩
          · have hc := Kept.cell k1
            go_simp
            first | done | rfl
          go_simp
          refine hK _ ?_
          clear hK K
          refine held_take (i := 2) rfl (by kernel_rfl) (by kernel_rfl) (by kernel_rfl) hQ hK0 (by rfl) ?_
          apply Exists.intro
          refine ⟨fun w1 k1 => ?_, fun K hK => ?_⟩
          · have hc := Kept.cell k1
            go_simp
            first | done | rfl
          go_simp
          refine hK _ ?_
          clear hK K
          refine held_one (i := 3) rfl (by kernel_rfl) (by rfl) ?_
          refine wp_of_made (L := CodeQ 5) ?_ ?_
          · exact made_call (by go_simp; first | done | rfl) (codeQ_made HhU.out (SRB.out _ hK0))
          rintro x1 v hb ⟨e1, e2, e3, e4, e5, e6, e7, rfl⟩
          have hK1 := Kept.trans hK0 hb
          refine ⟨hK1, ?_⟩
          refine norm_act fun K hK => ?_
          go_simp
          refine hK _ ?_
          clear hK K
          refine held_take (i := 4) rfl (by kernel_rfl) (by kernel_rfl) (by kernel_rfl) hQ hK1 (by rfl) ?_
          apply Exists.intro
          refine ⟨fun w1 k1 => ?_, fun K hK => ?_⟩
          · have hc := Kept.cell k1
            go_simp
            first | done | rfl
          go_simp
          refine hK _ ?_
          clear hK K
          refine held_take (i := 5) rfl (by kernel_rfl) (by kernel_rfl) (by kernel_rfl) hQ hK1 (by rfl) ?_
          apply Exists.intro
          refine ⟨fun w1 k1 => ?_, fun K hK => ?_⟩
          · have hc := Kept.cell k1
            go_simp
            first | done | rfl
          go_simp
          refine hK _ ?_
          clear hK K
          refine held_take (i := 6) rfl (by kernel_rfl) (by kernel_rfl) (by kernel_rfl) hQ hK1 (by rfl) ?_
          apply Exists.intro
          refine ⟨fun w1 k1 => ?_, fun K hK => ?_⟩
          · have hc := Kept.cell k1
            go_simp
            first | done | rfl
          go_simp
          refine hK _ ?_
          clear hK K
          refine held_take (i := 7) rfl (by kernel_rfl) (by kernel_rfl) (by kernel_rfl) hQ hK1 (by rfl) ?_
          apply Exists.intro
          refine ⟨fun w1 k1 => ?_, fun K hK => ?_⟩
          · have hc := Kept.cell k1
            go_simp
            first | done | rfl
          go_simp
          refine hK _ ?_
          clear hK K
          refine held_take (i := 8) rfl (by kernel_rfl) (by kernel_rfl) (by kernel_rfl) hQ hK1 (by rfl) ?_
          apply Exists.intro
          refine ⟨fun w1 k1 => ?_, fun K hK => ?_⟩
          · have hc := Kept.cell k1
            go_simp
            first | done | rfl
          go_simp
          refine hK _ ?_
          clear hK K
          refine held_take (i := 9) rfl (by kernel_rfl) (by kernel_rfl) (by kernel_rfl) hQ hK1 (by rfl) ?_
          apply Exists.intro
          refine ⟨fun w1 k1 => ?_, fun K hK => ?_⟩
          · have hc := Kept.cell k1
            go_simp
            first | done | rfl
          go_simp
          refine hK _ ?_
          clear hK K
          refine held_take (i := 10) rfl (by kernel_rfl) (by kernel_rfl) (by kernel_rfl) hQ hK1 (by rfl) ?_
          apply Exists.intro
          refine ⟨fun w1 k1 => ?_, fun K hK => ?_⟩
          · have hc := Kept.cell k1
            go_simp
            first | done | rfl
          go_simp
          refine hK _ ?_
          clear hK K
          refine held_skip (i := 11) rfl (by kernel_rfl) (by kernel_rfl) (by kernel_rfl) hQ hK1 (by rfl) ?_
          intro K hK
          go_simp
          refine hK _ ?_
          clear hK K
          refine held_skip (i := 12) rfl (by kernel_rfl) (by kernel_rfl) (by kernel_rfl) hQ hK1 (by rfl) ?_
          intro K hK
          go_simp
          refine hK _ ?_
          clear hK K
          refine held_skip (i := 13) rfl (by kernel_rfl) (by kernel_rfl) (by kernel_rfl) hQ hK1 (by rfl) ?_
          intro K hK
          go_simp
          refine hK _ ?_
          clear hK K
          refine held_skip (i := 14) rfl (by kernel_rfl) (by kernel_rfl) (by kernel_rfl) hQ hK1 (by rfl) ?_
          intro K hK
          go_simp
          refine hK _ ?_
          clear hK K
          refine held_skip (i := 15) rfl (by kernel_rfl) (by kernel_rfl) (by kernel_rfl) hQ hK1 (by rfl) ?_
          intro K hK
          go_simp
          refine hK _ ?_
          clear hK K
          refine held_skip (i := 16) rfl (by kernel_rfl) (by kernel_rfl) (by kernel_rfl) hQ hK1 (by rfl) ?_
          intro K hK
          go_simp
          refine hK _ ?_
          clear hK K
          refine held_skip (i := 17) rfl (by kernel_rfl) (by kernel_rfl) (by kernel_rfl) hQ hK1 (by rfl) ?_
          intro K hK
          go_simp
          refine hK _ ?_
          clear hK K
          refine held_skip (i := 18) rfl (by kernel_rfl) (by kernel_rfl) (by kernel_rfl) hQ hK1 (by rfl) ?_
          intro K hK
          go_simp
          refine hK _ ?_
          clear hK K
          refine held_skip (i := 19) rfl (by kernel_rfl) (by kernel_rfl) (by kernel_rfl) hQ hK1 (by rfl) ?_
          intro K hK
          go_simp
          refine hK _ ?_
          clear hK K
          refine held_skip (i := 20) rfl (by kernel_rfl) (by kernel_rfl) (by kernel_rfl) hQ hK1 (by rfl) ?_
          intro K hK
          go_simp
          refine hK _ ?_
          clear hK K
          refine held_skip (i := 21) rfl (by kernel_rfl) (by kernel_rfl) (by kernel_rfl) hQ hK1 (by rfl) ?_
          intro K hK
          go_simp
          refine hK _ ?_
          clear hK K
          refine held_skip (i := 22) rfl (by kernel_rfl) (by kernel_rfl) (by kernel_rfl) hQ hK1 (by rfl) ?_
          intro K hK
          go_simp
          refine hK _ ?_
          clear hK K
          refine held_skip (i := 23) rfl (by kernel_rfl) (by kernel_rfl) (by kernel_rfl) hQ hK1 (by rfl) ?_
          intro K hK
          go_simp
          refine hK _ ?_
          clear hK K
          refine held_skip (i := 24) rfl (by kernel_rfl) (by kernel_rfl) (by kernel_rfl) hQ hK1 (by rfl) ?_
          intro K hK
          go_simp
          refine hK _ ?_
          clear hK K
          refine held_skip (i := 25) rfl (by kernel_rfl) (by kernel_rfl) (by kernel_rfl) hQ hK1 (by rfl) ?_
          intro K hK
          go_simp
          refine hK _ ?_
          clear hK K
          refine held_skip (i := 26) rfl (by kernel_rfl) (by kernel_rfl) (by kernel_rfl) hQ hK1 (by rfl) ?_
          intro K hK
          go_simp
          refine hK _ ?_
          clear hK K
          refine held_skip (i := 27) rfl (by kernel_rfl) (by kernel_rfl) (by kernel_rfl) hQ hK1 (by rfl) ?_
          intro K hK
          go_simp
          refine hK _ ?_
          clear hK K
          refine held_skip (i := 28) rfl (by kernel_rfl) (by kernel_rfl) (by kernel_rfl) hQ hK1 (by rfl) ?_
          intro K hK
          go_simp
          refine hK _ ?_
          clear hK K
          refine held_skip (i := 29) rfl (by kernel_rfl) (by kernel_rfl) (by kernel_rfl) hQ hK1 (by rfl) ?_
          intro K hK
          go_simp
          refine hK _ ?_
          clear hK K
          refine held_take (i := 30) rfl (by kernel_rfl) (by kernel_rfl) (by kernel_rfl) hQ hK1 (by rfl) ?_
          apply Exists.intro
          refine ⟨fun w1 k1 => ?_, fun K hK => ?_⟩
          · have hc := Kept.cell k1
            go_simp
            first | done | rfl
          go_simp
          refine hK _ ?_
          clear hK K
          refine held_take (i := 31) rfl (by kernel_rfl) (by kernel_rfl) (by kernel_rfl) hQ hK1 (by rfl) ?_
          apply Exists.intro
          refine ⟨fun w1 k1 => ?_, fun K hK => ?_⟩
          · have hc := Kept.cell k1
            go_simp
            first | done | rfl
          go_simp
          refine hK _ ?_
          clear hK K
          refine held_take (i := 32) rfl (by kernel_rfl) (by kernel_rfl) (by kernel_rfl) hQ hK1 (by rfl) ?_
          apply Exists.intro
          refine ⟨fun w1 k1 => ?_, fun K hK => ?_⟩
          · have hc := Kept.cell k1
            go_simp
            first | done | rfl
          go_simp
          refine hK _ ?_
          clear hK K
          refine held_take (i := 33) rfl (by kernel_rfl) (by kernel_rfl) (by kernel_rfl) hQ hK1 (by rfl) ?_
          apply Exists.intro
          refine ⟨fun w1 k1 => ?_, fun K hK => ?_⟩
          · have hc := Kept.cell k1
            go_simp
            first | done | rfl
          go_simp
          refine hK _ ?_
          clear hK K
          refine held_take (i := 34) rfl (by kernel_rfl) (by kernel_rfl) (by kernel_rfl) hQ hK1 (by rfl) ?_
          apply Exists.intro
          refine ⟨fun w1 k1 => ?_, fun K hK => ?_⟩
          · have hc := Kept.cell k1
            go_simp
            first | done | rfl
          go_simp
          refine hK _ ?_
          clear hK K
          refine held_take (i := 35) rfl (by kernel_rfl) (by kernel_rfl) (by kernel_rfl) hQ hK1 (by rfl) ?_
          apply Exists.intro
          refine ⟨fun w1 k1 => ?_, fun K hK => ?_⟩
          · have hc := Kept.cell k1
            go_simp
            first | done | rfl
          go_simp
          refine hK _ ?_
          clear hK K
          refine held_one (i := 36) rfl (by kernel_rfl) (by rfl) ?_
          refine wp_of_made (L := CodeQ 0) ?_ ?_
          · exact made_call (by go_simp; first | done | rfl) (codeQ_made HhV.out (SPT.out _ hK1))
          rintro x2 v hb ⟨e1, e2, e3, e4, e5, e6, e7, rfl⟩
          have hK2 := Kept.trans hK1 hb
          refine ⟨hK2, ?_⟩
          refine norm_act fun K hK => ?_
          go_simp
          refine hK _ ?_
          clear hK K
          refine held_take (i := 37) rfl (by kernel_rfl) (by kernel_rfl) (by kernel_rfl) hQ hK2 (by rfl) ?_
          apply Exists.intro
          refine ⟨fun w1 k1 => ?_, fun K hK => ?_⟩
          · have hc := Kept.cell k1
            go_simp
            first | done | rfl
          go_simp
          refine hK _ ?_
          clear hK K
          refine held_take (i := 38) rfl (by kernel_rfl) (by kernel_rfl) (by kernel_rfl) hQ hK2 (by rfl) ?_
          apply Exists.intro
          refine ⟨fun w1 k1 => ?_, fun K hK => ?_⟩
          · have hc := Kept.cell k1
            go_simp
            first | done | rfl
          go_simp
          refine hK _ ?_
          clear hK K
          refine held_take (i := 39) rfl (by kernel_rfl) (by kernel_rfl) (by kernel_rfl) hQ hK2 (by rfl) ?_
          apply Exists.intro
          refine ⟨fun w1 k1 => ?_, fun K hK => ?_⟩
          · have hc := Kept.cell k1
            go_simp
            first | done | rfl
          go_simp
          refine hK _ ?_
          clear hK K
          refine held_take (i := 40) rfl (by kernel_rfl) (by kernel_rfl) (by kernel_rfl) hQ hK2 (by rfl) ?_
          apply Exists.intro
          refine ⟨fun w1 k1 => ?_, fun K hK => ?_⟩
          · have hc := Kept.cell k1
            go_simp
            first | done | rfl
          go_simp
          refine hK _ ?_
          clear hK K
          refine held_take (i := 41) rfl (by kernel_rfl) (by kernel_rfl) (by kernel_rfl) hQ hK2 (by rfl) ?_
          apply Exists.intro
          refine ⟨fun w1 k1 => ?_, fun K hK => ?_⟩
          · have hc := Kept.cell k1
            go_simp
            first | done | rfl
          go_simp
          refine hK _ ?_
          clear hK K
          refine held_take (i := 42) rfl (by kernel_rfl) (by kernel_rfl) (by kernel_rfl) hQ hK2 (by rfl) ?_
          apply Exists.intro
          refine ⟨fun w1 k1 => ?_, fun K hK => ?_⟩
          · have hc := Kept.cell k1
            go_simp
            first | done | rfl
          go_simp
          refine hK _ ?_
          clear hK K
          refine held_take (i := 43) rfl (by kernel_rfl) (by kernel_rfl) (by kernel_rfl) hQ hK2 (by rfl) ?_
          apply Exists.intro
          refine ⟨fun w1 k1 => ?_, fun K hK => ?_⟩
          · have hc := Kept.cell k1
            go_simp
            first | done | rfl
          go_simp
          refine hK _ ?_
          clear hK K
          refine held_take (i := 44) rfl (by kernel_rfl) (by kernel_rfl) (by kernel_rfl) hQ hK2 (by rfl) ?_
          apply Exists.intro
          refine ⟨fun w1 k1 => ?_, fun K hK => ?_⟩
          · have hc := Kept.cell k1
            go_simp
            first | done | rfl
          go_simp
          refine hK _ ?_
          clear hK K
          refine held_take (i := 45) rfl (by kernel_rfl) (by kernel_rfl) (by kernel_rfl) hQ hK2 (by rfl) ?_
          apply Exists.intro
          refine ⟨fun w1 k1 => ?_, fun K hK => ?_⟩
          · have hc := Kept.cell k1
            go_simp
            first | done | rfl
          go_simp
          refine hK _ ?_
          clear hK K
          refine held_take (i := 46) rfl (by kernel_rfl) (by kernel_rfl) (by kernel_rfl) hQ hK2 (by rfl) ?_
          apply Exists.intro
          refine ⟨fun w1 k1 => ?_, fun K hK => ?_⟩
          · have hc := Kept.cell k1
            go_simp
            first | done | rfl
          go_simp
          refine hK _ ?_
          clear hK K
          refine held_take (i := 49) rfl (by kernel_rfl) (by kernel_rfl) (by kernel_rfl) hQ hK2 (by rfl) ?_
          apply Exists.intro
          refine ⟨fun w1 k1 => ?_, fun K hK => ?_⟩
          · have hc := Kept.cell k1
            go_simp
            first | done | rfl
          go_simp
          refine hK _ ?_
          clear hK K
          refine held_one (i := 47) rfl (by kernel_rfl) (by rfl) ?_
          refine wp_of_made (L := SaidV (.agg #[.int .i64 0, .string s])) ?_ ?_
          · exact made_call (by go_simp; first | done | rfl) (saidV_made (HTX.out _ hK2))
          rintro x3 v hb ⟨⟩
          have hK3 := Kept.trans hK2 hb
          refine ⟨hK3, ?_⟩
          refine norm_act fun K hK => ?_
          go_simp
          refine hK _ ?_
          clear hK K
          refine held_take (i := 48) rfl (by kernel_rfl) (by kernel_rfl) (by kernel_rfl) hQ hK3 (by rfl) ?_
          apply Exists.intro
          refine ⟨fun w1 k1 => ?_, fun K hK => ?_⟩
          · have hc := Kept.cell k1
            go_simp
            first | done | rfl
          go_simp
          refine hK _ ?_
          clear hK K
          refine held_take (i := 50) rfl (by kernel_rfl) (by kernel_rfl) (by kernel_rfl) hQ hK3 (by rfl) ?_
          apply Exists.intro
          refine ⟨fun w1 k1 => ?_, fun K hK => ?_⟩
          · have hc := Kept.cell k1
            go_simp
            first | done | rfl
          go_simp
          refine hK _ ?_
          clear hK K
          refine held_take (i := 51) rfl (by kernel_rfl) (by kernel_rfl) (by kernel_rfl) hQ hK3 (by rfl) ?_
          apply Exists.intro
          refine ⟨fun w1 k1 => ?_, fun K hK => ?_⟩
          · have hc := Kept.cell k1
            go_simp
            first | done | rfl
          go_simp
          refine hK _ ?_
          clear hK K
          refine held_take (i := 52) rfl (by kernel_rfl) (by kernel_rfl) (by kernel_rfl) hQ hK3 (by rfl) ?_
          apply Exists.intro
          refine ⟨fun w1 k1 => ?_, fun K hK => ?_⟩
          · have hc := Kept.cell k1
            go_simp
            first | done | rfl
          go_simp
          refine hK _ ?_
          clear hK K
          refine held_take (i := 53) rfl (by kernel_rfl) (by kernel_rfl) (by kernel_rfl) hQ hK3 (by rfl) ?_
          apply Exists.intro
          refine ⟨fun w1 k1 => ?_, fun K hK => ?_⟩
          · have hc := Kept.cell k1
            go_simp
            first | done | rfl
          go_simp
          refine hK _ ?_
          clear hK K
          refine held_take (i := 54) rfl (by kernel_rfl) (by kernel_rfl) (by kernel_rfl) hQ hK3 (by rfl) ?_
          apply Exists.intro
          refine ⟨fun w1 k1 => ?_, fun K hK => ?_⟩
          · have hc := Kept.cell k1
            go_simp
            first | done | rfl
          go_simp
          refine hK _ ?_
          clear hK K
          refine held_take (i := 57) rfl (by kernel_rfl) (by kernel_rfl) (by kernel_rfl) hQ hK3 (by rfl) ?_
          apply Exists.intro
          refine ⟨fun w1 k1 => ?_, fun K hK => ?_⟩
          · have hc := Kept.cell k1
            go_simp
            first | done | rfl
          go_simp
          refine hK _ ?_
          clear hK K
          refine held_one (i := 55) rfl (by kernel_rfl) (by rfl) ?_
          refine wp_of_made (L := SaidV (.agg #[.int .i64 (aC kk), .int .i64 (aN kk)])) ?_ ?_
          · exact made_call (by go_simp; first | done | rfl) (saidV_made (iArgs_any kk _))
          rintro x4 v hb ⟨⟩
          have hK4 := Kept.trans hK3 hb
          refine ⟨hK4, ?_⟩
          refine norm_act fun K hK => ?_
          go_simp
          refine hK _ ?_
          clear hK K
          refine held_take (i := 56) rfl (by kernel_rfl) (by kernel_rfl) (by kernel_rfl) hQ hK4 (by rfl) ?_
          apply Exists.intro
          refine ⟨fun w1 k1 => ?_, fun K hK => ?_⟩
          · have hc := Kept.cell k1
            go_simp
            first | done | rfl
          go_simp
          refine hK _ ?_
          clear hK K
          refine held_one (i := 58) rfl (by kernel_rfl) (by rfl) ?_
          refine wp_of_made (L := SaidV (.agg #[.int .i64 (aC kk), .int .i64 (aN kk)])) ?_ ?_
          · exact made_call (by go_simp; first | done | rfl) (saidV_made (sArgs_any kk _))
          rintro x5 v hb ⟨⟩
          have hK5 := Kept.trans hK4 hb
          refine ⟨hK5, ?_⟩
          refine norm_act fun K hK => ?_
          go_simp
          refine hK _ ?_
          clear hK K
          refine held_take (i := 59) rfl (by kernel_rfl) (by kernel_rfl) (by kernel_rfl) hQ hK5 (by rfl) ?_
          apply Exists.intro
          refine ⟨fun w1 k1 => ?_, fun K hK => ?_⟩
          · have hc := Kept.cell k1
            go_simp
            first | done | rfl
          go_simp
          refine hK _ ?_
          clear hK K
          refine held_take (i := 60) rfl (by kernel_rfl) (by kernel_rfl) (by kernel_rfl) hQ hK5 (by rfl) ?_
          apply Exists.intro
          refine ⟨fun w1 k1 => ?_, fun K hK => ?_⟩
          · have hc := Kept.cell k1
            go_simp
            first | done | rfl
          go_simp
          refine hK _ ?_
          clear hK K
          refine held_take (i := 61) rfl (by kernel_rfl) (by kernel_rfl) (by kernel_rfl) hQ hK5 (by rfl) ?_
          apply Exists.intro
          refine ⟨fun w1 k1 => ?_, fun K hK => ?_⟩
          · have hc := Kept.cell k1
            go_simp
            first | done | rfl
          go_simp
          refine hK _ ?_
          clear hK K
          refine held_take (i := 62) rfl (by kernel_rfl) (by kernel_rfl) (by kernel_rfl) hQ hK5 (by rfl) ?_
          apply Exists.intro
          refine ⟨fun w1 k1 => ?_, fun K hK => ?_⟩
          · have hc := Kept.cell k1
            go_simp
            first | done | rfl
          go_simp
          refine hK _ ?_
          clear hK K
          refine held_take (i := 63) rfl (by kernel_rfl) (by kernel_rfl) (by kernel_rfl) hQ hK5 (by rfl) ?_
          apply Exists.intro
          refine ⟨fun w1 k1 => ?_, fun K hK => ?_⟩
          · have hc := Kept.cell k1
            go_simp
            first | done | rfl
          go_simp
          refine hK _ ?_
          clear hK K
          refine held_take (i := 66) rfl (by kernel_rfl) (by kernel_rfl) (by kernel_rfl) hQ hK5 (by rfl) ?_
          apply Exists.intro
          refine ⟨fun w1 k1 => ?_, fun K hK => ?_⟩
          · have hc := Kept.cell k1
            go_simp
            first | done | rfl
          go_simp
          refine hK _ ?_
          clear hK K
          refine held_one (i := 64) rfl (by kernel_rfl) (by rfl) ?_
          refine wp_of_made (L := SaidV (.agg #[.int .i64 (aC kk), .int .i64 (aN kk)])) ?_ ?_
          · exact made_call (by go_simp; first | done | rfl) (saidV_made (iArgs_any kk _))
          rintro x6 v hb ⟨⟩
          have hK6 := Kept.trans hK5 hb
          refine ⟨hK6, ?_⟩
          refine norm_act fun K hK => ?_
          go_simp
          refine hK _ ?_
          clear hK K
          refine held_take (i := 65) rfl (by kernel_rfl) (by kernel_rfl) (by kernel_rfl) hQ hK6 (by rfl) ?_
          apply Exists.intro
          refine ⟨fun w1 k1 => ?_, fun K hK => ?_⟩
          · have hc := Kept.cell k1
            go_simp
            first | done | rfl
          go_simp
          refine hK _ ?_
          clear hK K
          refine held_one (i := 67) rfl (by kernel_rfl) (by rfl) ?_
          refine wp_of_made (L := SaidV (.agg #[.int .i64 (aC kk), .int .i64 (aN kk)])) ?_ ?_
          · exact made_call (by go_simp; first | done | rfl) (saidV_made (sArgs_any kk _))
          rintro x7 v hb ⟨⟩
          have hK7 := Kept.trans hK6 hb
          refine ⟨hK7, ?_⟩
          refine norm_act fun K hK => ?_
          go_simp
          refine hK _ ?_
          clear hK K
          refine held_take (i := 68) rfl (by kernel_rfl) (by kernel_rfl) (by kernel_rfl) hQ hK7 (by rfl) ?_
          apply Exists.intro
          refine ⟨fun w1 k1 => ?_, fun K hK => ?_⟩
          · have hc := Kept.cell k1
            go_simp
            first | done | rfl
          go_simp
          refine hK _ ?_
          clear hK K
          refine held_take (i := 69) rfl (by kernel_rfl) (by kernel_rfl) (by kernel_rfl) hQ hK7 (by rfl) ?_
          apply Exists.intro
          refine ⟨fun w1 k1 => ?_, fun K hK => ?_⟩
          · have hc := Kept.cell k1
            go_simp
            first | done | rfl
          go_simp
          refine hK _ ?_
          clear hK K
          refine held_take (i := 70) rfl (by kernel_rfl) (by kernel_rfl) (by kernel_rfl) hQ hK7 (by rfl) ?_
          apply Exists.intro
          refine ⟨fun w1 k1 => ?_, fun K hK => ?_⟩
          · have hc := Kept.cell k1
            go_simp
            first | done | rfl
          go_simp
          refine hK _ ?_
          clear hK K
          refine wpAnyH_done (by kernel_rfl) ?_ _
          rw [hM]
          exact ⟨rfl, hK7, _, _, _, _, _, _, _, _, _, _, _, _, _, _, _, _, _, _, _, _, _, _, _, _, _, _, _, _, _, _, _, _, _, _, _, _, _, _, _, _, _, _, _, _, _, _, _, _, _, _, _, _, _, _, _, _, _, _, _, _, _, _, _, _, _, _, _, _, _, _, _, _, _, _, _, _, _, _, _, _, _, _, rfl⟩
    · rcases rdC_two (prL s.data.toList) with hv | hv
      · as_aux_lemma =>
          have hUCx : UC = 0 := by rw [← HhU.out]; exact hu
          have hVCx : VC = 5 := by rw [← HhV.out]; exact hv
          subst hUCx
          subst hVCx
          clear hu hv
          have HUF : Hid (bod UK UA UD = L ∧ rF UK UA UD.length = 0) := hideP (by have := bod_read HbL.out HhU.out; rw [HUq.out.2.1, HUq.out.2.2.1, HUq.out.2.2.2] at this; exact this)
          have q1 : ((L.length : Int) + 1 != (L.length : Int) + 1) = false := by simp
          have q2 : (1 : Int) ≤ (L.length : Int) + 1 := by omega
          have q3 : ((L.length : Int) + 1) ≤ 41 := by omega
          have q4 : IntKind.i64.wrap ((L.length : Int) + 1) = (L.length : Int) + 1 := IntWalk.i64_in _ (by omega)
          refine wp_region_held (S := Kept w5) (by kernel_rfl) ?_
          show wpAnyH _ _ _ _ _ 71 (Array.replicate 71 false) _ (w5).drew
          have hK0 : Kept (w5) (w5).drew := (Below.refl _ _).drew
          have hQ : ∀ c a d v w, M (.panic c) (Act.put a d v) w → M (.panic c) a w := by
            rw [hM]
            intro c a d v w h
            cases h.1
          refine held_take (i := 0) rfl (by kernel_rfl) (by kernel_rfl) (by kernel_rfl) hQ hK0 (by rfl) ?_
          apply Exists.intro
          refine ⟨fun w1 k1 => ?_, fun K hK => ?_⟩
          · have hc := Kept.cell k1
            go_simp
            first | done | rfl
          go_simp
          refine hK _ ?_
          clear hK K
          refine held_take (i := 1) rfl (by kernel_rfl) (by kernel_rfl) (by kernel_rfl) hQ hK0 (by rfl) ?_
          apply Exists.intro
          refine ⟨fun w1 k1 => ?_, fun K hK => ?_⟩
          · have hc := Kept.cell k1
            go_simp
            first | done | rfl
          go_simp
          refine hK _ ?_
          clear hK K
          refine held_take (i := 2) rfl (by kernel_rfl) (by kernel_rfl) (by kernel_rfl) hQ hK0 (by rfl) ?_
          apply Exists.intro
          refine ⟨fun w1 k1 => ?_, fun K hK => ?_⟩
          · have hc := Kept.cell k1
            go_simp
            first | done | rfl
          go_simp
          refine hK _ ?_
          clear hK K
          refine held_one (i := 3) rfl (by kernel_rfl) (by rfl) ?_
          refine wp_of_made (L := CodeQ 0) ?_ ?_
          · exact made_call (by go_simp; first | done | rfl) (codeQ_made HhU.out (SRB.out _ hK0))
          rintro x1 v hb ⟨e1, e2, e3, e4, e5, e6, e7, rfl⟩
          have hK1 := Kept.trans hK0 hb
          refine ⟨hK1, ?_⟩
          refine norm_act fun K hK => ?_
          go_simp
          refine hK _ ?_
          clear hK K
          refine held_take (i := 4) rfl (by kernel_rfl) (by kernel_rfl) (by kernel_rfl) hQ hK1 (by rfl) ?_
          apply Exists.intro
          refine ⟨fun w1 k1 => ?_, fun K hK => ?_⟩
          · have hc := Kept.cell k1
            go_simp
            first | done | rfl
          go_simp
          refine hK _ ?_
          clear hK K
          refine held_take (i := 5) rfl (by kernel_rfl) (by kernel_rfl) (by kernel_rfl) hQ hK1 (by rfl) ?_
          apply Exists.intro
          refine ⟨fun w1 k1 => ?_, fun K hK => ?_⟩
          · have hc := Kept.cell k1
            go_simp
            first | done | rfl
          go_simp
          refine hK _ ?_
          clear hK K
          refine held_take (i := 6) rfl (by kernel_rfl) (by kernel_rfl) (by kernel_rfl) hQ hK1 (by rfl) ?_
          apply Exists.intro
          refine ⟨fun w1 k1 => ?_, fun K hK => ?_⟩
          · have hc := Kept.cell k1
            go_simp
            first | done | rfl
          go_simp
          refine hK _ ?_
          clear hK K
          refine held_take (i := 7) rfl (by kernel_rfl) (by kernel_rfl) (by kernel_rfl) hQ hK1 (by rfl) ?_
          apply Exists.intro
          refine ⟨fun w1 k1 => ?_, fun K hK => ?_⟩
          · have hc := Kept.cell k1
            go_simp
            first | done | rfl
          go_simp
          refine hK _ ?_
          clear hK K
          refine held_take (i := 8) rfl (by kernel_rfl) (by kernel_rfl) (by kernel_rfl) hQ hK1 (by rfl) ?_
          apply Exists.intro
          refine ⟨fun w1 k1 => ?_, fun K hK => ?_⟩
          · have hc := Kept.cell k1
            go_simp
            first | done | rfl
          go_simp
          refine hK _ ?_
          clear hK K
          refine held_take (i := 9) rfl (by kernel_rfl) (by kernel_rfl) (by kernel_rfl) hQ hK1 (by rfl) ?_
          apply Exists.intro
          refine ⟨fun w1 k1 => ?_, fun K hK => ?_⟩
          · have hc := Kept.cell k1
            go_simp
            first | done | rfl
          go_simp
          refine hK _ ?_
          clear hK K
          refine held_take (i := 10) rfl (by kernel_rfl) (by kernel_rfl) (by kernel_rfl) hQ hK1 (by rfl) ?_
          apply Exists.intro
          refine ⟨fun w1 k1 => ?_, fun K hK => ?_⟩
          · have hc := Kept.cell k1
            go_simp
            first | done | rfl
          go_simp
          refine hK _ ?_
          clear hK K
          refine held_take (i := 11) rfl (by kernel_rfl) (by kernel_rfl) (by kernel_rfl) hQ hK1 (by rfl) ?_
          apply Exists.intro
          refine ⟨fun w1 k1 => ?_, fun K hK => ?_⟩
          · have hc := Kept.cell k1
            go_simp
            first | done | rfl
          go_simp
          refine hK _ ?_
          clear hK K
          refine held_take (i := 12) rfl (by kernel_rfl) (by kernel_rfl) (by kernel_rfl) hQ hK1 (by rfl) ?_
          apply Exists.intro
          refine ⟨fun w1 k1 => ?_, fun K hK => ?_⟩
          · have hc := Kept.cell k1
            go_simp
            first | done | rfl
          go_simp
          refine hK _ ?_
          clear hK K
          refine held_take (i := 16) rfl (by kernel_rfl) (by kernel_rfl) (by kernel_rfl) hQ hK1 (by rfl) ?_
          apply Exists.intro
          refine ⟨fun w1 k1 => ?_, fun K hK => ?_⟩
          · have hc := Kept.cell k1
            go_simp
            first | done | rfl
          go_simp
          refine hK _ ?_
          clear hK K
          refine held_take (i := 17) rfl (by kernel_rfl) (by kernel_rfl) (by kernel_rfl) hQ hK1 (by rfl) ?_
          apply Exists.intro
          refine ⟨fun w1 k1 => ?_, fun K hK => ?_⟩
          · have hc := Kept.cell k1
            go_simp
            first | done | rfl
          go_simp
          refine hK _ ?_
          clear hK K
          refine held_take (i := 18) rfl (by kernel_rfl) (by kernel_rfl) (by kernel_rfl) hQ hK1 (by rfl) ?_
          apply Exists.intro
          refine ⟨fun w1 k1 => ?_, fun K hK => ?_⟩
          · have hc := Kept.cell k1
            go_simp
            first | done | rfl
          go_simp
          refine hK _ ?_
          clear hK K
          refine held_one (i := 13) rfl (by kernel_rfl) (by rfl) ?_
          refine wp_of_made (L := PackV L) ?_ ?_
          · exact made_call (by go_simp; first | done | rfl) (packV_made (ca := ca2) (cb := cb2) HUF.out.2 HUF.out.1 (U7.out.rowA.keep (Kept.below hK1) (by omega)) (U7.out.rowD.keep (Kept.below hK1) (by omega)) (by have := Below.size hK1; omega))
          rintro x2 v hb ⟨g1, cp1, rfl, hc1, hr1⟩
          have hK2 := Kept.trans hK1 hb
          refine ⟨hK2, ?_⟩
          refine norm_act fun K hK => ?_
          go_simp
          refine hK _ ?_
          clear hK K
          refine held_take (i := 14) rfl (by kernel_rfl) (by kernel_rfl) (by kernel_rfl) hQ hK2 (by rfl) ?_
          apply Exists.intro
          refine ⟨fun w1 k1 => ?_, fun K hK => ?_⟩
          · have hc := Kept.cell k1
            go_simp
            first | done | rfl
          go_simp
          refine hK _ ?_
          clear hK K
          refine held_take (i := 15) rfl (by kernel_rfl) (by kernel_rfl) (by kernel_rfl) hQ hK2 (by rfl) ?_
          apply Exists.intro
          refine ⟨fun w1 k1 => ?_, fun K hK => ?_⟩
          · have hc := Kept.cell k1
            go_simp
            first | done | rfl
          go_simp
          refine hK _ ?_
          clear hK K
          refine held_take (i := 19) rfl (by kernel_rfl) (by kernel_rfl) (by kernel_rfl) hQ hK2 (by rfl) ?_
          apply Exists.intro
          refine ⟨fun w1 k1 => ?_, fun K hK => ?_⟩
          · have hc := Kept.cell k1
            go_simp
            first | done | rfl
          go_simp
          refine hK _ ?_
          clear hK K
          refine held_take (i := 20) rfl (by kernel_rfl) (by kernel_rfl) (by kernel_rfl) hQ hK2 (by rfl) ?_
          apply Exists.intro
          refine ⟨fun w1 k1 => ?_, fun K hK => ?_⟩
          · have hc := Kept.cell k1
            go_simp
            first | done | rfl
          go_simp
          refine hK _ ?_
          clear hK K
          refine held_take (i := 21) rfl (by kernel_rfl) (by kernel_rfl) (by kernel_rfl) hQ hK2 (by rfl) ?_
          apply Exists.intro
          refine ⟨fun w1 k1 => ?_, fun K hK => ?_⟩
          · have hc := Kept.cell k1
            go_simp
            first | done | rfl
          go_simp
          refine hK _ ?_
          clear hK K
          refine held_take (i := 22) rfl (by kernel_rfl) (by kernel_rfl) (by kernel_rfl) hQ hK2 (by rfl) ?_
          apply Exists.intro
          refine ⟨fun w1 k1 => ?_, fun K hK => ?_⟩
          · have hc := Kept.cell k1
            go_simp
            first | done | rfl
          go_simp
          refine hK _ ?_
          clear hK K
          refine held_take (i := 26) rfl (by kernel_rfl) (by kernel_rfl) (by kernel_rfl) hQ hK2 (by rfl) ?_
          apply Exists.intro
          refine ⟨fun w1 k1 => ?_, fun K hK => ?_⟩
          · have hc := Kept.cell k1
            go_simp
            first | done | rfl
          go_simp
          refine hK _ ?_
          clear hK K
          refine held_one (i := 23) rfl (by kernel_rfl) (by rfl) ?_
          refine wp_of_made (L := PackV L) ?_ ?_
          · exact made_call (by go_simp; first | done | rfl) (packV_made (ca := ca2) (cb := cb2) HUF.out.2 HUF.out.1 (U7.out.rowA.keep (Kept.below hK2) (by omega)) (U7.out.rowD.keep (Kept.below hK2) (by omega)) (by have := Below.size hK2; omega))
          rintro x3 v hb ⟨g2, cp2, rfl, hc2, hr2⟩
          have hK3 := Kept.trans hK2 hb
          refine ⟨hK3, ?_⟩
          refine norm_act fun K hK => ?_
          go_simp
          refine hK _ ?_
          clear hK K
          refine held_take (i := 24) rfl (by kernel_rfl) (by kernel_rfl) (by kernel_rfl) hQ hK3 (by rfl) ?_
          apply Exists.intro
          refine ⟨fun w1 k1 => ?_, fun K hK => ?_⟩
          · have hc := Kept.cell k1
            go_simp
            first | done | rfl
          go_simp
          refine hK _ ?_
          clear hK K
          refine held_take (i := 25) rfl (by kernel_rfl) (by kernel_rfl) (by kernel_rfl) hQ hK3 (by rfl) ?_
          apply Exists.intro
          refine ⟨fun w1 k1 => ?_, fun K hK => ?_⟩
          · have hc := Kept.cell k1
            go_simp
            first | done | rfl
          go_simp
          refine hK _ ?_
          clear hK K
          refine held_one (i := 27) rfl (by kernel_rfl) (by rfl) ?_
          refine wp_of_made (L := SaidV (.bool true)) ?_ ?_
          · exact made_call (by go_simp; first | done | rfl) (saidV_made (same_made (bytes_same _ _ _ _ _ bo _ cb L _ (hr2.from 1 (cap := cp2) hc2) (R7.out.keep (Kept.below hK3) (by omega)))))
          rintro x4 v hb ⟨⟩
          have hK4 := Kept.trans hK3 hb
          refine ⟨hK4, ?_⟩
          refine norm_act fun K hK => ?_
          go_simp
          refine hK _ ?_
          clear hK K
          refine held_take (i := 28) rfl (by kernel_rfl) (by kernel_rfl) (by kernel_rfl) hQ hK4 (by rfl) ?_
          apply Exists.intro
          refine ⟨fun w1 k1 => ?_, fun K hK => ?_⟩
          · have hc := Kept.cell k1
            go_simp
            first | done | rfl
          go_simp
          refine hK _ ?_
          clear hK K
          refine held_take (i := 29) rfl (by kernel_rfl) (by kernel_rfl) (by kernel_rfl) hQ hK4 (by rfl) ?_
          apply Exists.intro
          refine ⟨fun w1 k1 => ?_, fun K hK => ?_⟩
          · have hc := Kept.cell k1
            go_simp
            first | done | rfl
          go_simp
          refine hK _ ?_
          clear hK K
          refine held_take (i := 30) rfl (by kernel_rfl) (by kernel_rfl) (by kernel_rfl) hQ hK4 (by rfl) ?_
          apply Exists.intro
          refine ⟨fun w1 k1 => ?_, fun K hK => ?_⟩
          · have hc := Kept.cell k1
            go_simp
            first | done | rfl
          go_simp
          refine hK _ ?_
          clear hK K
          refine held_take (i := 31) rfl (by kernel_rfl) (by kernel_rfl) (by kernel_rfl) hQ hK4 (by rfl) ?_
          apply Exists.intro
          refine ⟨fun w1 k1 => ?_, fun K hK => ?_⟩
          · have hc := Kept.cell k1
            go_simp
            first | done | rfl
          go_simp
          refine hK _ ?_
          clear hK K
          refine held_take (i := 32) rfl (by kernel_rfl) (by kernel_rfl) (by kernel_rfl) hQ hK4 (by rfl) ?_
          apply Exists.intro
          refine ⟨fun w1 k1 => ?_, fun K hK => ?_⟩
          · have hc := Kept.cell k1
            go_simp
            first | done | rfl
          go_simp
          refine hK _ ?_
          clear hK K
          refine held_take (i := 33) rfl (by kernel_rfl) (by kernel_rfl) (by kernel_rfl) hQ hK4 (by rfl) ?_
          apply Exists.intro
          refine ⟨fun w1 k1 => ?_, fun K hK => ?_⟩
          · have hc := Kept.cell k1
            go_simp
            first | done | rfl
          go_simp
          refine hK _ ?_
          clear hK K
          refine held_take (i := 34) rfl (by kernel_rfl) (by kernel_rfl) (by kernel_rfl) hQ hK4 (by rfl) ?_
          apply Exists.intro
          refine ⟨fun w1 k1 => ?_, fun K hK => ?_⟩
          · have hc := Kept.cell k1
            go_simp
            first | done | rfl
          go_simp
          refine hK _ ?_
          clear hK K
          refine held_take (i := 35) rfl (by kernel_rfl) (by kernel_rfl) (by kernel_rfl) hQ hK4 (by rfl) ?_
          apply Exists.intro
          refine ⟨fun w1 k1 => ?_, fun K hK => ?_⟩
          · have hc := Kept.cell k1
            go_simp
            first | done | rfl
          go_simp
          refine hK _ ?_
          clear hK K
          refine held_one (i := 36) rfl (by kernel_rfl) (by rfl) ?_
          refine wp_of_made (L := CodeQ 5) ?_ ?_
          · exact made_call (by go_simp; first | done | rfl) (codeQ_made HhV.out (SPT.out _ hK4))
          rintro x5 v hb ⟨e1, e2, e3, e4, e5, e6, e7, rfl⟩
          have hK5 := Kept.trans hK4 hb
          refine ⟨hK5, ?_⟩
          refine norm_act fun K hK => ?_
          go_simp
          refine hK _ ?_
          clear hK K
          refine held_take (i := 37) rfl (by kernel_rfl) (by kernel_rfl) (by kernel_rfl) hQ hK5 (by rfl) ?_
          apply Exists.intro
          refine ⟨fun w1 k1 => ?_, fun K hK => ?_⟩
          · have hc := Kept.cell k1
            go_simp
            first | done | rfl
          go_simp
          refine hK _ ?_
          clear hK K
          refine held_take (i := 38) rfl (by kernel_rfl) (by kernel_rfl) (by kernel_rfl) hQ hK5 (by rfl) ?_
          apply Exists.intro
          refine ⟨fun w1 k1 => ?_, fun K hK => ?_⟩
          · have hc := Kept.cell k1
            go_simp
            first | done | rfl
          go_simp
          refine hK _ ?_
          clear hK K
          refine held_take (i := 39) rfl (by kernel_rfl) (by kernel_rfl) (by kernel_rfl) hQ hK5 (by rfl) ?_
          apply Exists.intro
          refine ⟨fun w1 k1 => ?_, fun K hK => ?_⟩
          · have hc := Kept.cell k1
            go_simp
            first | done | rfl
          go_simp
          refine hK _ ?_
          clear hK K
          refine held_take (i := 40) rfl (by kernel_rfl) (by kernel_rfl) (by kernel_rfl) hQ hK5 (by rfl) ?_
          apply Exists.intro
          refine ⟨fun w1 k1 => ?_, fun K hK => ?_⟩
          · have hc := Kept.cell k1
            go_simp
            first | done | rfl
          go_simp
          refine hK _ ?_
          clear hK K
          refine held_take (i := 41) rfl (by kernel_rfl) (by kernel_rfl) (by kernel_rfl) hQ hK5 (by rfl) ?_
          apply Exists.intro
          refine ⟨fun w1 k1 => ?_, fun K hK => ?_⟩
          · have hc := Kept.cell k1
            go_simp
            first | done | rfl
          go_simp
          refine hK _ ?_
          clear hK K
          refine held_take (i := 42) rfl (by kernel_rfl) (by kernel_rfl) (by kernel_rfl) hQ hK5 (by rfl) ?_
          apply Exists.intro
          refine ⟨fun w1 k1 => ?_, fun K hK => ?_⟩
          · have hc := Kept.cell k1
            go_simp
            first | done | rfl
          go_simp
          refine hK _ ?_
          clear hK K
          refine held_take (i := 43) rfl (by kernel_rfl) (by kernel_rfl) (by kernel_rfl) hQ hK5 (by rfl) ?_
          apply Exists.intro
          refine ⟨fun w1 k1 => ?_, fun K hK => ?_⟩
          · have hc := Kept.cell k1
            go_simp
            first | done | rfl
          go_simp
          refine hK _ ?_
          clear hK K
          refine held_take (i := 44) rfl (by kernel_rfl) (by kernel_rfl) (by kernel_rfl) hQ hK5 (by rfl) ?_
          apply Exists.intro
          refine ⟨fun w1 k1 => ?_, fun K hK => ?_⟩
          · have hc := Kept.cell k1
            go_simp
            first | done | rfl
          go_simp
          refine hK _ ?_
          clear hK K
          refine held_skip (i := 45) rfl (by kernel_rfl) (by kernel_rfl) (by kernel_rfl) hQ hK5 (by rfl) ?_
          intro K hK
          go_simp
          refine hK _ ?_
          clear hK K
          refine held_skip (i := 46) rfl (by kernel_rfl) (by kernel_rfl) (by kernel_rfl) hQ hK5 (by rfl) ?_
          intro K hK
          go_simp
          refine hK _ ?_
          clear hK K
          refine held_skip (i := 47) rfl (by kernel_rfl) (by kernel_rfl) (by kernel_rfl) hQ hK5 (by rfl) ?_
          intro K hK
          go_simp
          refine hK _ ?_
          clear hK K
          refine held_skip (i := 48) rfl (by kernel_rfl) (by kernel_rfl) (by kernel_rfl) hQ hK5 (by rfl) ?_
          intro K hK
          go_simp
          refine hK _ ?_
          clear hK K
          refine held_skip (i := 49) rfl (by kernel_rfl) (by kernel_rfl) (by kernel_rfl) hQ hK5 (by rfl) ?_
          intro K hK
          go_simp
          refine hK _ ?_
          clear hK K
          refine held_skip (i := 50) rfl (by kernel_rfl) (by kernel_rfl) (by kernel_rfl) hQ hK5 (by rfl) ?_
          intro K hK
          go_simp
          refine hK _ ?_
          clear hK K
          refine held_take (i := 51) rfl (by kernel_rfl) (by kernel_rfl) (by kernel_rfl) hQ hK5 (by rfl) ?_
          apply Exists.intro
          refine ⟨fun w1 k1 => ?_, fun K hK => ?_⟩
          · have hc := Kept.cell k1
            go_simp
            first | done | rfl
          go_simp
          refine hK _ ?_
          clear hK K
          refine held_take (i := 52) rfl (by kernel_rfl) (by kernel_rfl) (by kernel_rfl) hQ hK5 (by rfl) ?_
          apply Exists.intro
          refine ⟨fun w1 k1 => ?_, fun K hK => ?_⟩
          · have hc := Kept.cell k1
            go_simp
            first | done | rfl
          go_simp
          refine hK _ ?_
          clear hK K
          refine held_take (i := 53) rfl (by kernel_rfl) (by kernel_rfl) (by kernel_rfl) hQ hK5 (by rfl) ?_
          apply Exists.intro
          refine ⟨fun w1 k1 => ?_, fun K hK => ?_⟩
          · have hc := Kept.cell k1
            go_simp
            first | done | rfl
          go_simp
          refine hK _ ?_
          clear hK K
          refine held_take (i := 54) rfl (by kernel_rfl) (by kernel_rfl) (by kernel_rfl) hQ hK5 (by rfl) ?_
          apply Exists.intro
          refine ⟨fun w1 k1 => ?_, fun K hK => ?_⟩
          · have hc := Kept.cell k1
            go_simp
            first | done | rfl
          go_simp
          refine hK _ ?_
          clear hK K
          refine held_take (i := 57) rfl (by kernel_rfl) (by kernel_rfl) (by kernel_rfl) hQ hK5 (by rfl) ?_
          apply Exists.intro
          refine ⟨fun w1 k1 => ?_, fun K hK => ?_⟩
          · have hc := Kept.cell k1
            go_simp
            first | done | rfl
          go_simp
          refine hK _ ?_
          clear hK K
          refine held_one (i := 55) rfl (by kernel_rfl) (by rfl) ?_
          refine wp_of_made (L := SaidV (.agg #[.int .i64 (aC kk), .int .i64 (aN kk)])) ?_ ?_
          · exact made_call (by go_simp; first | done | rfl) (saidV_made (iArgs_any kk _))
          rintro x6 v hb ⟨⟩
          have hK6 := Kept.trans hK5 hb
          refine ⟨hK6, ?_⟩
          refine norm_act fun K hK => ?_
          go_simp
          refine hK _ ?_
          clear hK K
          refine held_take (i := 56) rfl (by kernel_rfl) (by kernel_rfl) (by kernel_rfl) hQ hK6 (by rfl) ?_
          apply Exists.intro
          refine ⟨fun w1 k1 => ?_, fun K hK => ?_⟩
          · have hc := Kept.cell k1
            go_simp
            first | done | rfl
          go_simp
          refine hK _ ?_
          clear hK K
          refine held_one (i := 58) rfl (by kernel_rfl) (by rfl) ?_
          refine wp_of_made (L := SaidV (.agg #[.int .i64 (aC kk), .int .i64 (aN kk)])) ?_ ?_
          · exact made_call (by go_simp; first | done | rfl) (saidV_made (sArgs_any kk _))
          rintro x7 v hb ⟨⟩
          have hK7 := Kept.trans hK6 hb
          refine ⟨hK7, ?_⟩
          refine norm_act fun K hK => ?_
          go_simp
          refine hK _ ?_
          clear hK K
          refine held_take (i := 59) rfl (by kernel_rfl) (by kernel_rfl) (by kernel_rfl) hQ hK7 (by rfl) ?_
          apply Exists.intro
          refine ⟨fun w1 k1 => ?_, fun K hK => ?_⟩
          · have hc := Kept.cell k1
            go_simp
            first | done | rfl
          go_simp
          refine hK _ ?_
          clear hK K
          refine held_take (i := 60) rfl (by kernel_rfl) (by kernel_rfl) (by kernel_rfl) hQ hK7 (by rfl) ?_
          apply Exists.intro
          refine ⟨fun w1 k1 => ?_, fun K hK => ?_⟩
          · have hc := Kept.cell k1
            go_simp
            first | done | rfl
          go_simp
          refine hK _ ?_
          clear hK K
          refine held_take (i := 61) rfl (by kernel_rfl) (by kernel_rfl) (by kernel_rfl) hQ hK7 (by rfl) ?_
          apply Exists.intro
          refine ⟨fun w1 k1 => ?_, fun K hK => ?_⟩
          · have hc := Kept.cell k1
            go_simp
            first | done | rfl
          go_simp
          refine hK _ ?_
          clear hK K
          refine held_take (i := 62) rfl (by kernel_rfl) (by kernel_rfl) (by kernel_rfl) hQ hK7 (by rfl) ?_
          apply Exists.intro
          refine ⟨fun w1 k1 => ?_, fun K hK => ?_⟩
          · have hc := Kept.cell k1
            go_simp
            first | done | rfl
          go_simp
          refine hK _ ?_
          clear hK K
          refine held_take (i := 63) rfl (by kernel_rfl) (by kernel_rfl) (by kernel_rfl) hQ hK7 (by rfl) ?_
          apply Exists.intro
          refine ⟨fun w1 k1 => ?_, fun K hK => ?_⟩
          · have hc := Kept.cell k1
            go_simp
            first | done | rfl
          go_simp
          refine hK _ ?_
          clear hK K
          refine held_take (i := 66) rfl (by kernel_rfl) (by kernel_rfl) (by kernel_rfl) hQ hK7 (by rfl) ?_
          apply Exists.intro
          refine ⟨fun w1 k1 => ?_, fun K hK => ?_⟩
          · have hc := Kept.cell k1
            go_simp
            first | done | rfl
          go_simp
          refine hK _ ?_
          clear hK K
          refine held_one (i := 64) rfl (by kernel_rfl) (by rfl) ?_
          refine wp_of_made (L := SaidV (.agg #[.int .i64 (aC kk), .int .i64 (aN kk)])) ?_ ?_
          · exact made_call (by go_simp; first | done | rfl) (saidV_made (iArgs_any kk _))
          rintro x8 v hb ⟨⟩
          have hK8 := Kept.trans hK7 hb
          refine ⟨hK8, ?_⟩
          refine norm_act fun K hK => ?_
          go_simp
          refine hK _ ?_
          clear hK K
          refine held_take (i := 65) rfl (by kernel_rfl) (by kernel_rfl) (by kernel_rfl) hQ hK8 (by rfl) ?_
          apply Exists.intro
          refine ⟨fun w1 k1 => ?_, fun K hK => ?_⟩
          · have hc := Kept.cell k1
            go_simp
            first | done | rfl
          go_simp
          refine hK _ ?_
          clear hK K
          refine held_one (i := 67) rfl (by kernel_rfl) (by rfl) ?_
          refine wp_of_made (L := SaidV (.agg #[.int .i64 (aC kk), .int .i64 (aN kk)])) ?_ ?_
          · exact made_call (by go_simp; first | done | rfl) (saidV_made (sArgs_any kk _))
          rintro x9 v hb ⟨⟩
          have hK9 := Kept.trans hK8 hb
          refine ⟨hK9, ?_⟩
          refine norm_act fun K hK => ?_
          go_simp
          refine hK _ ?_
          clear hK K
          refine held_take (i := 68) rfl (by kernel_rfl) (by kernel_rfl) (by kernel_rfl) hQ hK9 (by rfl) ?_
          apply Exists.intro
          refine ⟨fun w1 k1 => ?_, fun K hK => ?_⟩
          · have hc := Kept.cell k1
            go_simp
            first | done | rfl
          go_simp
          refine hK _ ?_
          clear hK K
          refine held_take (i := 69) rfl (by kernel_rfl) (by kernel_rfl) (by kernel_rfl) hQ hK9 (by rfl) ?_
          apply Exists.intro
          refine ⟨fun w1 k1 => ?_, fun K hK => ?_⟩
          · have hc := Kept.cell k1
            go_simp
            first | done | rfl
          go_simp
          refine hK _ ?_
          clear hK K
          refine held_take (i := 70) rfl (by kernel_rfl) (by kernel_rfl) (by kernel_rfl) hQ hK9 (by rfl) ?_
          apply Exists.intro
          refine ⟨fun w1 k1 => ?_, fun K hK => ?_⟩
          · have hc := Kept.cell k1
            go_simp
            first | done | rfl
          go_simp
          refine hK _ ?_
          clear hK K
          refine wpAnyH_done (by kernel_rfl) ?_ _
          rw [hM]
          exact ⟨rfl, hK9, _, _, _, _, _, _, _, _, _, _, _, _, _, _, _, _, _, _, _, _, _, _, _, _, _, _, _, _, _, _, _, _, _, _, _, _, _, _, _, _, _, _, _, _, _, _, _, _, _, _, _, _, _, _, _, _, _, _, _, _, _, _, _, _, _, _, _, _, _, _, _, _, _, _, _, _, _, _, _, _, _, _, rfl⟩
      · as_aux_lemma =>
          have hUCx : UC = 0 := by rw [← HhU.out]; exact hu
          have hVCx : VC = 0 := by rw [← HhV.out]; exact hv
          subst hUCx
          subst hVCx
          clear hu hv
          have HUF : Hid (bod UK UA UD = L ∧ rF UK UA UD.length = 0) := hideP (by have := bod_read HbL.out HhU.out; rw [HUq.out.2.1, HUq.out.2.2.1, HUq.out.2.2.2] at this; exact this)
          have q1 : ((L.length : Int) + 1 != (L.length : Int) + 1) = false := by simp
          have q2 : (1 : Int) ≤ (L.length : Int) + 1 := by omega
          have q3 : ((L.length : Int) + 1) ≤ 41 := by omega
          have q4 : IntKind.i64.wrap ((L.length : Int) + 1) = (L.length : Int) + 1 := IntWalk.i64_in _ (by omega)
          have HTX : Hid (∀ w', Kept w5 w' → Calls Tryz.prog 14 #[.agg #[.int .i64 VK, .slice ao3 VA.length ca3, .slice bo3 VD.length cb3]] w' fun e w'' => e = .returned (.agg #[.int .i64 0, .string s]) ∧ Below w'.heap.size w' w'') := hideP (fun w' kw => by
            obtain ⟨t1, t2⟩ := text_D HhV.out
            have t3 := text_read HhV.out
            rw [HVq.out.2.1, HVq.out.2.2.1, HVq.out.2.2.2] at t2 t3
            rw [HVq.out.2.2.2] at t1
            have h := iText_any _ _ VK ao3 bo3 ca3 cb3 VA VD w' (V7.out.rowA.keep (Kept.below kw) (by omega)) (V7.out.rowD.keep (Kept.below kw) (by omega)) (by have := Below.size kw; omega) t1 (E7.out.keep (Kept.below kw)).tens
            rw [t2, t3] at h
            simpa using h)
          refine wp_region_held (S := Kept w5) (by kernel_rfl) ?_
          show wpAnyH _ _ _ _ _ 71 (Array.replicate 71 false) _ (w5).drew
          have hK0 : Kept (w5) (w5).drew := (Below.refl _ _).drew
          have hQ : ∀ c a d v w, M (.panic c) (Act.put a d v) w → M (.panic c) a w := by
            rw [hM]
            intro c a d v w h
            cases h.1
          refine held_take (i := 0) rfl (by kernel_rfl) (by kernel_rfl) (by kernel_rfl) hQ hK0 (by rfl) ?_
          apply Exists.intro
          refine ⟨fun w1 k1 => ?_, fun K hK => ?_⟩
          · have hc := Kept.cell k1
            go_simp
            first | done | rfl
          go_simp
          refine hK _ ?_
          clear hK K
          refine held_take (i := 1) rfl (by kernel_rfl) (by kernel_rfl) (by kernel_rfl) hQ hK0 (by rfl) ?_
          apply Exists.intro
          refine ⟨fun w1 k1 => ?_, fun K hK => ?_⟩
          · have hc := Kept.cell k1
            go_simp
            first | done | rfl
          go_simp
          refine hK _ ?_
          clear hK K
          refine held_take (i := 2) rfl (by kernel_rfl) (by kernel_rfl) (by kernel_rfl) hQ hK0 (by rfl) ?_
          apply Exists.intro
          refine ⟨fun w1 k1 => ?_, fun K hK => ?_⟩
          · have hc := Kept.cell k1
            go_simp
            first | done | rfl
          go_simp
          refine hK _ ?_
          clear hK K
          refine held_one (i := 3) rfl (by kernel_rfl) (by rfl) ?_
          refine wp_of_made (L := CodeQ 0) ?_ ?_
          · exact made_call (by go_simp; first | done | rfl) (codeQ_made HhU.out (SRB.out _ hK0))
          rintro x1 v hb ⟨e1, e2, e3, e4, e5, e6, e7, rfl⟩
          have hK1 := Kept.trans hK0 hb
          refine ⟨hK1, ?_⟩
          refine norm_act fun K hK => ?_
          go_simp
          refine hK _ ?_
          clear hK K
          refine held_take (i := 4) rfl (by kernel_rfl) (by kernel_rfl) (by kernel_rfl) hQ hK1 (by rfl) ?_
          apply Exists.intro
          refine ⟨fun w1 k1 => ?_, fun K hK => ?_⟩
          · have hc := Kept.cell k1
            go_simp
            first | done | rfl
          go_simp
          refine hK _ ?_
          clear hK K
          refine held_take (i := 5) rfl (by kernel_rfl) (by kernel_rfl) (by kernel_rfl) hQ hK1 (by rfl) ?_
          apply Exists.intro
          refine ⟨fun w1 k1 => ?_, fun K hK => ?_⟩
          · have hc := Kept.cell k1
            go_simp
            first | done | rfl
          go_simp
          refine hK _ ?_
          clear hK K
          refine held_take (i := 6) rfl (by kernel_rfl) (by kernel_rfl) (by kernel_rfl) hQ hK1 (by rfl) ?_
          apply Exists.intro
          refine ⟨fun w1 k1 => ?_, fun K hK => ?_⟩
          · have hc := Kept.cell k1
            go_simp
            first | done | rfl
          go_simp
          refine hK _ ?_
          clear hK K
          refine held_take (i := 7) rfl (by kernel_rfl) (by kernel_rfl) (by kernel_rfl) hQ hK1 (by rfl) ?_
          apply Exists.intro
          refine ⟨fun w1 k1 => ?_, fun K hK => ?_⟩
          · have hc := Kept.cell k1
            go_simp
            first | done | rfl
          go_simp
          refine hK _ ?_
          clear hK K
          refine held_take (i := 8) rfl (by kernel_rfl) (by kernel_rfl) (by kernel_rfl) hQ hK1 (by rfl) ?_
          apply Exists.intro
          refine ⟨fun w1 k1 => ?_, fun K hK => ?_⟩
          · have hc := Kept.cell k1
            go_simp
            first | done | rfl
          go_simp
          refine hK _ ?_
          clear hK K
          refine held_take (i := 9) rfl (by kernel_rfl) (by kernel_rfl) (by kernel_rfl) hQ hK1 (by rfl) ?_
          apply Exists.intro
          refine ⟨fun w1 k1 => ?_, fun K hK => ?_⟩
          · have hc := Kept.cell k1
            go_simp
            first | done | rfl
          go_simp
          refine hK _ ?_
          clear hK K
          refine held_take (i := 10) rfl (by kernel_rfl) (by kernel_rfl) (by kernel_rfl) hQ hK1 (by rfl) ?_
          apply Exists.intro
          refine ⟨fun w1 k1 => ?_, fun K hK => ?_⟩
          · have hc := Kept.cell k1
            go_simp
            first | done | rfl
          go_simp
          refine hK _ ?_
          clear hK K
          refine held_take (i := 11) rfl (by kernel_rfl) (by kernel_rfl) (by kernel_rfl) hQ hK1 (by rfl) ?_
          apply Exists.intro
          refine ⟨fun w1 k1 => ?_, fun K hK => ?_⟩
          · have hc := Kept.cell k1
            go_simp
            first | done | rfl
          go_simp
          refine hK _ ?_
          clear hK K
          refine held_take (i := 12) rfl (by kernel_rfl) (by kernel_rfl) (by kernel_rfl) hQ hK1 (by rfl) ?_
          apply Exists.intro
          refine ⟨fun w1 k1 => ?_, fun K hK => ?_⟩
          · have hc := Kept.cell k1
            go_simp
            first | done | rfl
          go_simp
          refine hK _ ?_
          clear hK K
          refine held_take (i := 16) rfl (by kernel_rfl) (by kernel_rfl) (by kernel_rfl) hQ hK1 (by rfl) ?_
          apply Exists.intro
          refine ⟨fun w1 k1 => ?_, fun K hK => ?_⟩
          · have hc := Kept.cell k1
            go_simp
            first | done | rfl
          go_simp
          refine hK _ ?_
          clear hK K
          refine held_take (i := 17) rfl (by kernel_rfl) (by kernel_rfl) (by kernel_rfl) hQ hK1 (by rfl) ?_
          apply Exists.intro
          refine ⟨fun w1 k1 => ?_, fun K hK => ?_⟩
          · have hc := Kept.cell k1
            go_simp
            first | done | rfl
          go_simp
          refine hK _ ?_
          clear hK K
          refine held_take (i := 18) rfl (by kernel_rfl) (by kernel_rfl) (by kernel_rfl) hQ hK1 (by rfl) ?_
          apply Exists.intro
          refine ⟨fun w1 k1 => ?_, fun K hK => ?_⟩
          · have hc := Kept.cell k1
            go_simp
            first | done | rfl
          go_simp
          refine hK _ ?_
          clear hK K
          refine held_one (i := 13) rfl (by kernel_rfl) (by rfl) ?_
          refine wp_of_made (L := PackV L) ?_ ?_
          · exact made_call (by go_simp; first | done | rfl) (packV_made (ca := ca2) (cb := cb2) HUF.out.2 HUF.out.1 (U7.out.rowA.keep (Kept.below hK1) (by omega)) (U7.out.rowD.keep (Kept.below hK1) (by omega)) (by have := Below.size hK1; omega))
          rintro x2 v hb ⟨g1, cp1, rfl, hc1, hr1⟩
          have hK2 := Kept.trans hK1 hb
          refine ⟨hK2, ?_⟩
          refine norm_act fun K hK => ?_
          go_simp
          refine hK _ ?_
          clear hK K
          refine held_take (i := 14) rfl (by kernel_rfl) (by kernel_rfl) (by kernel_rfl) hQ hK2 (by rfl) ?_
          apply Exists.intro
          refine ⟨fun w1 k1 => ?_, fun K hK => ?_⟩
          · have hc := Kept.cell k1
            go_simp
            first | done | rfl
          go_simp
          refine hK _ ?_
          clear hK K
          refine held_take (i := 15) rfl (by kernel_rfl) (by kernel_rfl) (by kernel_rfl) hQ hK2 (by rfl) ?_
          apply Exists.intro
          refine ⟨fun w1 k1 => ?_, fun K hK => ?_⟩
          · have hc := Kept.cell k1
            go_simp
            first | done | rfl
          go_simp
          refine hK _ ?_
          clear hK K
          refine held_take (i := 19) rfl (by kernel_rfl) (by kernel_rfl) (by kernel_rfl) hQ hK2 (by rfl) ?_
          apply Exists.intro
          refine ⟨fun w1 k1 => ?_, fun K hK => ?_⟩
          · have hc := Kept.cell k1
            go_simp
            first | done | rfl
          go_simp
          refine hK _ ?_
          clear hK K
          refine held_take (i := 20) rfl (by kernel_rfl) (by kernel_rfl) (by kernel_rfl) hQ hK2 (by rfl) ?_
          apply Exists.intro
          refine ⟨fun w1 k1 => ?_, fun K hK => ?_⟩
          · have hc := Kept.cell k1
            go_simp
            first | done | rfl
          go_simp
          refine hK _ ?_
          clear hK K
          refine held_take (i := 21) rfl (by kernel_rfl) (by kernel_rfl) (by kernel_rfl) hQ hK2 (by rfl) ?_
          apply Exists.intro
          refine ⟨fun w1 k1 => ?_, fun K hK => ?_⟩
          · have hc := Kept.cell k1
            go_simp
            first | done | rfl
          go_simp
          refine hK _ ?_
          clear hK K
          refine held_take (i := 22) rfl (by kernel_rfl) (by kernel_rfl) (by kernel_rfl) hQ hK2 (by rfl) ?_
          apply Exists.intro
          refine ⟨fun w1 k1 => ?_, fun K hK => ?_⟩
          · have hc := Kept.cell k1
            go_simp
            first | done | rfl
          go_simp
          refine hK _ ?_
          clear hK K
          refine held_take (i := 26) rfl (by kernel_rfl) (by kernel_rfl) (by kernel_rfl) hQ hK2 (by rfl) ?_
          apply Exists.intro
          refine ⟨fun w1 k1 => ?_, fun K hK => ?_⟩
          · have hc := Kept.cell k1
            go_simp
            first | done | rfl
          go_simp
          refine hK _ ?_
          clear hK K
          refine held_one (i := 23) rfl (by kernel_rfl) (by rfl) ?_
          refine wp_of_made (L := PackV L) ?_ ?_
          · exact made_call (by go_simp; first | done | rfl) (packV_made (ca := ca2) (cb := cb2) HUF.out.2 HUF.out.1 (U7.out.rowA.keep (Kept.below hK2) (by omega)) (U7.out.rowD.keep (Kept.below hK2) (by omega)) (by have := Below.size hK2; omega))
          rintro x3 v hb ⟨g2, cp2, rfl, hc2, hr2⟩
          have hK3 := Kept.trans hK2 hb
          refine ⟨hK3, ?_⟩
          refine norm_act fun K hK => ?_
          go_simp
          refine hK _ ?_
          clear hK K
          refine held_take (i := 24) rfl (by kernel_rfl) (by kernel_rfl) (by kernel_rfl) hQ hK3 (by rfl) ?_
          apply Exists.intro
          refine ⟨fun w1 k1 => ?_, fun K hK => ?_⟩
          · have hc := Kept.cell k1
            go_simp
            first | done | rfl
          go_simp
          refine hK _ ?_
          clear hK K
          refine held_take (i := 25) rfl (by kernel_rfl) (by kernel_rfl) (by kernel_rfl) hQ hK3 (by rfl) ?_
          apply Exists.intro
          refine ⟨fun w1 k1 => ?_, fun K hK => ?_⟩
          · have hc := Kept.cell k1
            go_simp
            first | done | rfl
          go_simp
          refine hK _ ?_
          clear hK K
          refine held_one (i := 27) rfl (by kernel_rfl) (by rfl) ?_
          refine wp_of_made (L := SaidV (.bool true)) ?_ ?_
          · exact made_call (by go_simp; first | done | rfl) (saidV_made (same_made (bytes_same _ _ _ _ _ bo _ cb L _ (hr2.from 1 (cap := cp2) hc2) (R7.out.keep (Kept.below hK3) (by omega)))))
          rintro x4 v hb ⟨⟩
          have hK4 := Kept.trans hK3 hb
          refine ⟨hK4, ?_⟩
          refine norm_act fun K hK => ?_
          go_simp
          refine hK _ ?_
          clear hK K
          refine held_take (i := 28) rfl (by kernel_rfl) (by kernel_rfl) (by kernel_rfl) hQ hK4 (by rfl) ?_
          apply Exists.intro
          refine ⟨fun w1 k1 => ?_, fun K hK => ?_⟩
          · have hc := Kept.cell k1
            go_simp
            first | done | rfl
          go_simp
          refine hK _ ?_
          clear hK K
          refine held_take (i := 29) rfl (by kernel_rfl) (by kernel_rfl) (by kernel_rfl) hQ hK4 (by rfl) ?_
          apply Exists.intro
          refine ⟨fun w1 k1 => ?_, fun K hK => ?_⟩
          · have hc := Kept.cell k1
            go_simp
            first | done | rfl
          go_simp
          refine hK _ ?_
          clear hK K
          refine held_take (i := 30) rfl (by kernel_rfl) (by kernel_rfl) (by kernel_rfl) hQ hK4 (by rfl) ?_
          apply Exists.intro
          refine ⟨fun w1 k1 => ?_, fun K hK => ?_⟩
          · have hc := Kept.cell k1
            go_simp
            first | done | rfl
          go_simp
          refine hK _ ?_
          clear hK K
          refine held_take (i := 31) rfl (by kernel_rfl) (by kernel_rfl) (by kernel_rfl) hQ hK4 (by rfl) ?_
          apply Exists.intro
          refine ⟨fun w1 k1 => ?_, fun K hK => ?_⟩
          · have hc := Kept.cell k1
            go_simp
            first | done | rfl
          go_simp
          refine hK _ ?_
          clear hK K
          refine held_take (i := 32) rfl (by kernel_rfl) (by kernel_rfl) (by kernel_rfl) hQ hK4 (by rfl) ?_
          apply Exists.intro
          refine ⟨fun w1 k1 => ?_, fun K hK => ?_⟩
          · have hc := Kept.cell k1
            go_simp
            first | done | rfl
          go_simp
          refine hK _ ?_
          clear hK K
          refine held_take (i := 33) rfl (by kernel_rfl) (by kernel_rfl) (by kernel_rfl) hQ hK4 (by rfl) ?_
          apply Exists.intro
          refine ⟨fun w1 k1 => ?_, fun K hK => ?_⟩
          · have hc := Kept.cell k1
            go_simp
            first | done | rfl
          go_simp
          refine hK _ ?_
          clear hK K
          refine held_take (i := 34) rfl (by kernel_rfl) (by kernel_rfl) (by kernel_rfl) hQ hK4 (by rfl) ?_
          apply Exists.intro
          refine ⟨fun w1 k1 => ?_, fun K hK => ?_⟩
          · have hc := Kept.cell k1
            go_simp
            first | done | rfl
          go_simp
          refine hK _ ?_
          clear hK K
          refine held_take (i := 35) rfl (by kernel_rfl) (by kernel_rfl) (by kernel_rfl) hQ hK4 (by rfl) ?_
          apply Exists.intro
          refine ⟨fun w1 k1 => ?_, fun K hK => ?_⟩
          · have hc := Kept.cell k1
            go_simp
            first | done | rfl
          go_simp
          refine hK _ ?_
          clear hK K
          refine held_one (i := 36) rfl (by kernel_rfl) (by rfl) ?_
          refine wp_of_made (L := CodeQ 0) ?_ ?_
          · exact made_call (by go_simp; first | done | rfl) (codeQ_made HhV.out (SPT.out _ hK4))
          rintro x5 v hb ⟨e1, e2, e3, e4, e5, e6, e7, rfl⟩
          have hK5 := Kept.trans hK4 hb
          refine ⟨hK5, ?_⟩
          refine norm_act fun K hK => ?_
          go_simp
          refine hK _ ?_
          clear hK K
          refine held_take (i := 37) rfl (by kernel_rfl) (by kernel_rfl) (by kernel_rfl) hQ hK5 (by rfl) ?_
          apply Exists.intro
          refine ⟨fun w1 k1 => ?_, fun K hK => ?_⟩
          · have hc := Kept.cell k1
            go_simp
            first | done | rfl
          go_simp
          refine hK _ ?_
          clear hK K
          refine held_take (i := 38) rfl (by kernel_rfl) (by kernel_rfl) (by kernel_rfl) hQ hK5 (by rfl) ?_
          apply Exists.intro
          refine ⟨fun w1 k1 => ?_, fun K hK => ?_⟩
          · have hc := Kept.cell k1
            go_simp
            first | done | rfl
          go_simp
          refine hK _ ?_
          clear hK K
          refine held_take (i := 39) rfl (by kernel_rfl) (by kernel_rfl) (by kernel_rfl) hQ hK5 (by rfl) ?_
          apply Exists.intro
          refine ⟨fun w1 k1 => ?_, fun K hK => ?_⟩
          · have hc := Kept.cell k1
            go_simp
            first | done | rfl
          go_simp
          refine hK _ ?_
          clear hK K
          refine held_take (i := 40) rfl (by kernel_rfl) (by kernel_rfl) (by kernel_rfl) hQ hK5 (by rfl) ?_
          apply Exists.intro
          refine ⟨fun w1 k1 => ?_, fun K hK => ?_⟩
          · have hc := Kept.cell k1
            go_simp
            first | done | rfl
          go_simp
          refine hK _ ?_
          clear hK K
          refine held_take (i := 41) rfl (by kernel_rfl) (by kernel_rfl) (by kernel_rfl) hQ hK5 (by rfl) ?_
          apply Exists.intro
          refine ⟨fun w1 k1 => ?_, fun K hK => ?_⟩
          · have hc := Kept.cell k1
            go_simp
            first | done | rfl
          go_simp
          refine hK _ ?_
          clear hK K
          refine held_take (i := 42) rfl (by kernel_rfl) (by kernel_rfl) (by kernel_rfl) hQ hK5 (by rfl) ?_
          apply Exists.intro
          refine ⟨fun w1 k1 => ?_, fun K hK => ?_⟩
          · have hc := Kept.cell k1
            go_simp
            first | done | rfl
          go_simp
          refine hK _ ?_
          clear hK K
          refine held_take (i := 43) rfl (by kernel_rfl) (by kernel_rfl) (by kernel_rfl) hQ hK5 (by rfl) ?_
          apply Exists.intro
          refine ⟨fun w1 k1 => ?_, fun K hK => ?_⟩
          · have hc := Kept.cell k1
            go_simp
            first | done | rfl
          go_simp
          refine hK _ ?_
          clear hK K
          refine held_take (i := 44) rfl (by kernel_rfl) (by kernel_rfl) (by kernel_rfl) hQ hK5 (by rfl) ?_
          apply Exists.intro
          refine ⟨fun w1 k1 => ?_, fun K hK => ?_⟩
          · have hc := Kept.cell k1
            go_simp
            first | done | rfl
          go_simp
          refine hK _ ?_
          clear hK K
          refine held_take (i := 45) rfl (by kernel_rfl) (by kernel_rfl) (by kernel_rfl) hQ hK5 (by rfl) ?_
          apply Exists.intro
          refine ⟨fun w1 k1 => ?_, fun K hK => ?_⟩
          · have hc := Kept.cell k1
            go_simp
            first | done | rfl
          go_simp
          refine hK _ ?_
          clear hK K
          refine held_take (i := 46) rfl (by kernel_rfl) (by kernel_rfl) (by kernel_rfl) hQ hK5 (by rfl) ?_
          apply Exists.intro
          refine ⟨fun w1 k1 => ?_, fun K hK => ?_⟩
          · have hc := Kept.cell k1
            go_simp
            first | done | rfl
          go_simp
          refine hK _ ?_
          clear hK K
          refine held_take (i := 49) rfl (by kernel_rfl) (by kernel_rfl) (by kernel_rfl) hQ hK5 (by rfl) ?_
          apply Exists.intro
          refine ⟨fun w1 k1 => ?_, fun K hK => ?_⟩
          · have hc := Kept.cell k1
            go_simp
            first | done | rfl
          go_simp
          refine hK _ ?_
          clear hK K
          refine held_one (i := 47) rfl (by kernel_rfl) (by rfl) ?_
          refine wp_of_made (L := SaidV (.agg #[.int .i64 0, .string s])) ?_ ?_
          · exact made_call (by go_simp; first | done | rfl) (saidV_made (HTX.out _ hK5))
          rintro x6 v hb ⟨⟩
          have hK6 := Kept.trans hK5 hb
          refine ⟨hK6, ?_⟩
          refine norm_act fun K hK => ?_
          go_simp
          refine hK _ ?_
          clear hK K
          refine held_take (i := 48) rfl (by kernel_rfl) (by kernel_rfl) (by kernel_rfl) hQ hK6 (by rfl) ?_
          apply Exists.intro
          refine ⟨fun w1 k1 => ?_, fun K hK => ?_⟩
          · have hc := Kept.cell k1
            go_simp
            first | done | rfl
          go_simp
          refine hK _ ?_
          clear hK K
          refine held_take (i := 50) rfl (by kernel_rfl) (by kernel_rfl) (by kernel_rfl) hQ hK6 (by rfl) ?_
          apply Exists.intro
          refine ⟨fun w1 k1 => ?_, fun K hK => ?_⟩
          · have hc := Kept.cell k1
            go_simp
            first | done | rfl
          go_simp
          refine hK _ ?_
          clear hK K
          refine held_take (i := 51) rfl (by kernel_rfl) (by kernel_rfl) (by kernel_rfl) hQ hK6 (by rfl) ?_
          apply Exists.intro
          refine ⟨fun w1 k1 => ?_, fun K hK => ?_⟩
          · have hc := Kept.cell k1
            go_simp
            first | done | rfl
          go_simp
          refine hK _ ?_
          clear hK K
          refine held_take (i := 52) rfl (by kernel_rfl) (by kernel_rfl) (by kernel_rfl) hQ hK6 (by rfl) ?_
          apply Exists.intro
          refine ⟨fun w1 k1 => ?_, fun K hK => ?_⟩
          · have hc := Kept.cell k1
            go_simp
            first | done | rfl
          go_simp
          refine hK _ ?_
          clear hK K
          refine held_take (i := 53) rfl (by kernel_rfl) (by kernel_rfl) (by kernel_rfl) hQ hK6 (by rfl) ?_
          apply Exists.intro
          refine ⟨fun w1 k1 => ?_, fun K hK => ?_⟩
          · have hc := Kept.cell k1
            go_simp
            first | done | rfl
          go_simp
          refine hK _ ?_
          clear hK K
          refine held_take (i := 54) rfl (by kernel_rfl) (by kernel_rfl) (by kernel_rfl) hQ hK6 (by rfl) ?_
          apply Exists.intro
          refine ⟨fun w1 k1 => ?_, fun K hK => ?_⟩
          · have hc := Kept.cell k1
            go_simp
            first | done | rfl
          go_simp
          refine hK _ ?_
          clear hK K
          refine held_take (i := 57) rfl (by kernel_rfl) (by kernel_rfl) (by kernel_rfl) hQ hK6 (by rfl) ?_
          apply Exists.intro
          refine ⟨fun w1 k1 => ?_, fun K hK => ?_⟩
          · have hc := Kept.cell k1
            go_simp
            first | done | rfl
          go_simp
          refine hK _ ?_
          clear hK K
          refine held_one (i := 55) rfl (by kernel_rfl) (by rfl) ?_
          refine wp_of_made (L := SaidV (.agg #[.int .i64 (aC kk), .int .i64 (aN kk)])) ?_ ?_
          · exact made_call (by go_simp; first | done | rfl) (saidV_made (iArgs_any kk _))
          rintro x7 v hb ⟨⟩
          have hK7 := Kept.trans hK6 hb
          refine ⟨hK7, ?_⟩
          refine norm_act fun K hK => ?_
          go_simp
          refine hK _ ?_
          clear hK K
          refine held_take (i := 56) rfl (by kernel_rfl) (by kernel_rfl) (by kernel_rfl) hQ hK7 (by rfl) ?_
          apply Exists.intro
          refine ⟨fun w1 k1 => ?_, fun K hK => ?_⟩
          · have hc := Kept.cell k1
            go_simp
            first | done | rfl
          go_simp
          refine hK _ ?_
          clear hK K
          refine held_one (i := 58) rfl (by kernel_rfl) (by rfl) ?_
          refine wp_of_made (L := SaidV (.agg #[.int .i64 (aC kk), .int .i64 (aN kk)])) ?_ ?_
          · exact made_call (by go_simp; first | done | rfl) (saidV_made (sArgs_any kk _))
          rintro x8 v hb ⟨⟩
          have hK8 := Kept.trans hK7 hb
          refine ⟨hK8, ?_⟩
          refine norm_act fun K hK => ?_
          go_simp
          refine hK _ ?_
          clear hK K
          refine held_take (i := 59) rfl (by kernel_rfl) (by kernel_rfl) (by kernel_rfl) hQ hK8 (by rfl) ?_
          apply Exists.intro
          refine ⟨fun w1 k1 => ?_, fun K hK => ?_⟩
          · have hc := Kept.cell k1
            go_simp
            first | done | rfl
          go_simp
          refine hK _ ?_
          clear hK K
          refine held_take (i := 60) rfl (by kernel_rfl) (by kernel_rfl) (by kernel_rfl) hQ hK8 (by rfl) ?_
          apply Exists.intro
          refine ⟨fun w1 k1 => ?_, fun K hK => ?_⟩
          · have hc := Kept.cell k1
            go_simp
            first | done | rfl
          go_simp
          refine hK _ ?_
          clear hK K
          refine held_take (i := 61) rfl (by kernel_rfl) (by kernel_rfl) (by kernel_rfl) hQ hK8 (by rfl) ?_
          apply Exists.intro
          refine ⟨fun w1 k1 => ?_, fun K hK => ?_⟩
          · have hc := Kept.cell k1
            go_simp
            first | done | rfl
          go_simp
          refine hK _ ?_
          clear hK K
          refine held_take (i := 62) rfl (by kernel_rfl) (by kernel_rfl) (by kernel_rfl) hQ hK8 (by rfl) ?_
          apply Exists.intro
          refine ⟨fun w1 k1 => ?_, fun K hK => ?_⟩
          · have hc := Kept.cell k1
            go_simp
            first | done | rfl
          go_simp
          refine hK _ ?_
          clear hK K
          refine held_take (i := 63) rfl (by kernel_rfl) (by kernel_rfl) (by kernel_rfl) hQ hK8 (by rfl) ?_
          apply Exists.intro
          refine ⟨fun w1 k1 => ?_, fun K hK => ?_⟩
          · have hc := Kept.cell k1
            go_simp
            first | done | rfl
          go_simp
          refine hK _ ?_
          clear hK K
          refine held_take (i := 66) rfl (by kernel_rfl) (by kernel_rfl) (by kernel_rfl) hQ hK8 (by rfl) ?_
          apply Exists.intro
          refine ⟨fun w1 k1 => ?_, fun K hK => ?_⟩
          · have hc := Kept.cell k1
            go_simp
            first | done | rfl
          go_simp
          refine hK _ ?_
          clear hK K
          refine held_one (i := 64) rfl (by kernel_rfl) (by rfl) ?_
          refine wp_of_made (L := SaidV (.agg #[.int .i64 (aC kk), .int .i64 (aN kk)])) ?_ ?_
          · exact made_call (by go_simp; first | done | rfl) (saidV_made (iArgs_any kk _))
          rintro x9 v hb ⟨⟩
          have hK9 := Kept.trans hK8 hb
          refine ⟨hK9, ?_⟩
          refine norm_act fun K hK => ?_
          go_simp
          refine hK _ ?_
          clear hK K
          refine held_take (i := 65) rfl (by kernel_rfl) (by kernel_rfl) (by kernel_rfl) hQ hK9 (by rfl) ?_
          apply Exists.intro
          refine ⟨fun w1 k1 => ?_, fun K hK => ?_⟩
          · have hc := Kept.cell k1
            go_simp
            first | done | rfl
          go_simp
          refine hK _ ?_
          clear hK K
          refine held_one (i := 67) rfl (by kernel_rfl) (by rfl) ?_
          refine wp_of_made (L := SaidV (.agg #[.int .i64 (aC kk), .int .i64 (aN kk)])) ?_ ?_
          · exact made_call (by go_simp; first | done | rfl) (saidV_made (sArgs_any kk _))
          rintro x10 v hb ⟨⟩
          have hK10 := Kept.trans hK9 hb
          refine ⟨hK10, ?_⟩
          refine norm_act fun K hK => ?_
          go_simp
          refine hK _ ?_
          clear hK K
          refine held_take (i := 68) rfl (by kernel_rfl) (by kernel_rfl) (by kernel_rfl) hQ hK10 (by rfl) ?_
          apply Exists.intro
          refine ⟨fun w1 k1 => ?_, fun K hK => ?_⟩
          · have hc := Kept.cell k1
            go_simp
            first | done | rfl
          go_simp
          refine hK _ ?_
          clear hK K
          refine held_take (i := 69) rfl (by kernel_rfl) (by kernel_rfl) (by kernel_rfl) hQ hK10 (by rfl) ?_
          apply Exists.intro
          refine ⟨fun w1 k1 => ?_, fun K hK => ?_⟩
          · have hc := Kept.cell k1
            go_simp
            first | done | rfl
          go_simp
          refine hK _ ?_
          clear hK K
          refine held_take (i := 70) rfl (by kernel_rfl) (by kernel_rfl) (by kernel_rfl) hQ hK10 (by rfl) ?_
          apply Exists.intro
          refine ⟨fun w1 k1 => ?_, fun K hK => ?_⟩
          · have hc := Kept.cell k1
            go_simp
            first | done | rfl
          go_simp
          refine hK _ ?_
          clear hK K
          refine wpAnyH_done (by kernel_rfl) ?_ _
          rw [hM]
          exact ⟨rfl, hK10, _, _, _, _, _, _, _, _, _, _, _, _, _, _, _, _, _, _, _, _, _, _, _, _, _, _, _, _, _, _, _, _, _, _, _, _, _, _, _, _, _, _, _, _, _, _, _, _, _, _, _, _, _, _, _, _, _, _, _, _, _, _, _, _, _, _, _, _, _, _, _, _, _, _, _, _, _, _, _, _, _, _, rfl⟩
  case tail =>
    clear SRB SPT HhU HhV u0 u1 u2 u3 u4 u5 u6 u7 u8 v0 v1 v2 v3 v4 v5 v6 v7 v8 HUq HVq U7 V7 R7 HbL
    intro ex a' w8 hm
    rw [hM] at hm
    clear hM
    obtain ⟨rfl, k8, y11, y12, y13, y14, y15, y16, y17, y18, y19, y20, y21, y22, y23, y24, y25, y26, y27, y28, y29, y30, y31, y32, y33, y34, y35, y36, y37, y38, y39, y40, y41, y42, y43, y44, y45, y46, y47, y48, y49, y50, y51, y52, y53, y54, y55, y56, y57, y58, y59, y60, y61, y62, y63, y64, y65, y66, y67, y68, y69, y70, y71, y72, y73, y74, y75, y76, y77, y78, y79, y80, y81, y82, y83, y84, y85, y86, y87, y88, y89, y90, y91, y92, rfl⟩ := hm
    have K8 := hideP (K7.out.trans ((Kept.below k8).mono (by omega)))
    have E8 := hideP (HE.out.keep K8.out)
    have n8 := Below.size (Kept.below k8)
    clear k8 K7 E7
    go_wp2_with fail
    refine Calls.mono (drawPack_any w8 a len cap f (bytes_up (HB.out.belowR K8.out (Nat.le_refl _)) (by omega)) hl) ?_
    rintro e w10 ⟨k, ao, ca, A, bo1, cb1, D, rfl, k0, k1, hA8, hD25, hAb, hDb, k10, RA, RD⟩
    have K10 := hideP (K8.out.trans (k10.mono (by omega)))
    have RA10 := hideP RA
    have RD10 := hideP RD
    have HDb := hideP hDb
    have n10 := k10.size
    have Q11 : Hid (R3 (w10.alloc (.cells #[.int .i64 k, .slice ao A.length ca, .slice bo1 D.length cb1] 27)) w10.heap.size (.int .i64 k) (.slice ao A.length ca) (.slice bo1 D.length cb1)) := hideP ⟨by simp, by simp, by simp, by simp, by simp, by simp, by simp⟩
    clear k10 RA RD hDb hAb K8
    go_wp2_with fail
    have ka : Below w10.heap.size w10 (w10.alloc (.cells #[.int .i64 k, .slice ao A.length ca, .slice bo1 D.length cb1] 27)) := (Below.refl _ _).alloc (Nat.le_refl _) _
    have K11 := hideP (K10.out.trans (ka.mono (by omega)))
    have RA11 := hideP (RA10.out.keep ka (Nat.le_refl _))
    have RD11 := hideP (RD10.out.keep ka (Nat.le_refl _))
    have n11 : w10.heap.size < (w10.alloc (.cells #[.int .i64 k, .slice ao A.length ca, .slice bo1 D.length cb1] 27)).heap.size := by simp
    clear ka K10 RA10 RD10
    generalize w10.alloc (.cells #[.int .i64 k, .slice ao A.length ca, .slice bo1 D.length cb1] 27) = w11 at *
    refine Calls.mono (iPack_any _ _ k ao bo1 ca cb1 A D w11 RA11.out RD11.out (by omega)) ?_
    rintro e w12 ⟨ap, cp, rfl, O12, k12⟩
    obtain ⟨C, hC⟩ : ∃ C, rF k A D.length = C := ⟨_, rfl⟩
    obtain ⟨P, hP⟩ : ∃ P, pkL k A D = P := ⟨_, rfl⟩
    have SPK0 := sPack_any (k := k) (A := A) (D := D)
    have IFT0 := iFault_any (k := k) (A := A) (nd := D.length)
    rw [hP] at O12
    rw [hC, hP]
    rw [hC, hP] at SPK0
    rw [hC] at IFT0
    have HSPK := hideP SPK0
    have HIFT := hideP IFT0
    have HCP := hideP (And.intro hC hP)
    have hroom := O12.roomP
    have hpl : P.length ≤ 33 := by rw [← hP]; exact pkL_len k A D
    have K12 := hideP (K11.out.trans (k12.mono (by omega)))
    have RA12 := hideP (RA11.out.keep k12 (by omega))
    have RD12 := hideP (RD11.out.keep k12 (by omega))
    have Q12 := hideP (Q11.out.keep k12 n11)
    have n12 := k12.size
    have G13 : Hid (PW (w12.alloc (.cells #[.int .i64 C, .slice ap P.length cp] 35)) w12.heap.size w11.heap.size w12.heap.size C ap cp P) := hideP (PW.new O12 k12.size)
    clear k12 O12 K11 RA11 RD11 Q11 hC hP SPK0 IFT0
    have ka : Below w12.heap.size w12 (w12.alloc (.cells #[.int .i64 C, .slice ap P.length cp] 35)) := (Below.refl _ _).alloc (Nat.le_refl _) _
    have K13 := hideP (K12.out.trans (ka.mono (by omega)))
    have RA13 := hideP (RA12.out.keep ka (by omega))
    have RD13 := hideP (RD12.out.keep ka (by omega))
    have Q13 := hideP (Q12.out.keep ka (by omega))
    have E13 := hideP (HE.out.keep K13.out)
    have n13 : w12.heap.size < (w12.alloc (.cells #[.int .i64 C, .slice ap P.length cp] 35)).heap.size := by simp
    clear ka K12 RA12 RD12 E8
    by_cases hc0 : C = 0
    · subst hc0
      obtain ⟨BL, hBL⟩ : ∃ BL, bod k A D = BL := ⟨_, rfl⟩
      obtain ⟨X, hX⟩ : ∃ X, tX k A D = X := ⟨_, rfl⟩
      have hP2 : P = (BL.length : Int) :: BL := by rw [← hBL]; exact HCP.out.2.symm.trans (pkL_yes HCP.out.1)
      have RB : Hid (rdC BL = 0 ∧ rdK BL = k ∧ rdA BL = A ∧ rdD BL = D) := by rw [← hBL]; exact read_bod HCP.out.1
      have HBB : Hid (byts BL) := by rw [← hBL]; exact bod_byts HCP.out.1 HDb.out
      have hbl : 1 ≤ BL.length := by rw [← hBL, bod_len]; omega
      have HTXT : Hid (prL X.data.toList = BL) := by rw [← hBL, ← hX]; exact read_text HCP.out.1 (all_byts HDb.out)
      have hts : X.size ≤ 200 := by rw [← hX]; exact tX_size HCP.out.1
      have ITX0 := iText_any (k := k) (A := A) (D := D)
      rw [HCP.out.1, hX] at ITX0
      have ITX := hideP ITX0
      clear ITX0 hBL hX HCP HSPK HIFT
      subst hP2
      simp only [List.length_cons] at G13 hroom hpl n13 K13 RA13 RD13 Q13 E13 ⊢
      obtain ⟨r0, r1, r2, r3, r4, r5, r6⟩ := Q12.out
      have hnq : ¬ w10.heap.size = w12.heap.size := by omega
      go_wp2_with fail
      clear r0 r1 r2 r3 r4 r5 r6 hnq Q12
      generalize w12.alloc (.cells #[.int .i64 0, .slice ap (BL.length + 1) cp] 35) = w13 at *
      refine Calls.mono (ITX.out _ _ ao bo1 ca cb1 w13 RA13.out RD13.out (by omega) (all_byts HDb.out) E13.out.tens) ?_
      rintro e w14 ⟨rfl, k14⟩
      have K14 := hideP (K13.out.trans (k14.mono (by omega)))
      have RA14 := hideP (RA13.out.keep k14 (by omega))
      have RD14 := hideP (RD13.out.keep k14 (by omega))
      have Q14 := hideP (Q13.out.keep k14 (by omega))
      have G14 := hideP (G13.out.keep k14 n13 (by omega))
      have n14 := k14.size
      have B15 : Hid (Rb (w14.alloc (.cells #[.int .i64 0, .string X] 39)) w14.heap.size (.int .i64 0) (.string X)) := hideP ⟨by simp, by simp, by simp, by simp, by simp⟩
      clear k14 K13 RA13 RD13 Q13 G13 E13 ITX
      obtain ⟨p0, p1, p2, p3, p4⟩ := G14.out.box
      go_wp2_with fail
      clear p0 p1 p2 p3 p4
      have ka : Below w14.heap.size w14 (w14.alloc (.cells #[.int .i64 0, .string X] 39)) := (Below.refl _ _).alloc (Nat.le_refl _) _
      have K15 := hideP (K14.out.trans (ka.mono (by omega)))
      have RA15 := hideP (RA14.out.keep ka (by omega))
      have RD15 := hideP (RD14.out.keep ka (by omega))
      have Q15 := hideP (Q14.out.keep ka (by omega))
      have G15 := hideP (G14.out.keep ka (by omega) (by omega))
      have E15 := hideP (HE.out.keep K15.out)
      have n15 : w14.heap.size < (w14.alloc (.cells #[.int .i64 0, .string X] 39)).heap.size := by simp
      clear ka K14 RA14 RD14 Q14 G14
      generalize w14.alloc (.cells #[.int .i64 0, .string X] 39) = w15 at *
      rcases G15.out.row with hnil | ⟨g, o, rfl, g1, g2, gc, -⟩
      · cases hnil
      have gc0 := gc 0 (by simp)
      simp only [Nat.add_zero, List.getElem_cons_zero] at gc0
      have RW : Row .u8 w15 w11.heap.size w12.heap.size (some ⟨g, o, none⟩) ((BL.length : Int) :: BL) := .inr ⟨g, o, rfl, g1, g2, gc⟩
      have IRD : Hid (∀ w', Kept w15 w' → Calls Tryz.prog 6 #[.slice (some ⟨g, sOff o cp 1, none⟩) BL.length (cp - 1)] w' (ReadAns w' BL)) := hideP (fun w' kw => iRead_any _ _ _ _ BL w' ((RW.keep (Kept.below kw) (by omega)).from 1 (cap := cp) (by simpa using hroom)) (by have := Below.size kw; omega) (by omega) (by omega) HBB.out)
      have IPS : Hid (∀ w', Kept w15 w' → Calls Tryz.prog 8 #[.string X] w' (ReadAns w' BL)) := hideP (fun w' kw => by have h := iParse_any X w' (E15.out.keep (Kept.below kw)) (by omega); rw [HTXT.out] at h; exact h)
      have hgl : g < w15.heap.size := by omega
      have m1 : w12.heap.size < w15.heap.size := by omega
      have m2 : w10.heap.size < w15.heap.size := by omega
      have q1 : (1 : Int) < (BL.length : Int) + 1 := by omega
      have q2 : (1 : Int) ≤ (BL.length : Int) + 1 := by omega
      have q3 : (BL.length : Int) ≤ 32 := by simp at hpl; omega
      have q4 : IntKind.i64.wrap (BL.length : Int) = (BL.length : Int) := IntWalk.i64_in _ (by omega)
      have q5 : ((BL.length : Int) == (BL.length : Int)) = true := by simp
      clear RW gc g1 g2
      obtain ⟨p0, p1, p2, p3, p4⟩ := G15.out.box
      obtain ⟨r0, r1, r2, r3, r4, r5, r6⟩ := Q15.out
      obtain ⟨s0, s1, s2, s3, s4⟩ := B15.out
      simp only [List.length_cons] at p1
      refine wp_region_held (S := Kept w15) (by kernel_rfl) ?_
      show wpAnyH _ _ _ _ _ 47 (Array.replicate 47 false) _ (w15).drew
      have hK0 : Kept (w15) (w15).drew := (Below.refl _ _).drew
      generalize hQQ : (Exit.then _ _ : Exit → Act → World → Prop) = QQ
      have hQ : ∀ c a d v w, QQ (.panic c) (Act.put a d v) w → QQ (.panic c) a w := by
        subst hQQ
        intro c a d v w h
        cases d <;> exact h
      refine held_take (i := 0) rfl (by kernel_rfl) (by kernel_rfl) (by kernel_rfl) hQ hK0 (by rfl) ?_
      apply Exists.intro
      refine ⟨fun w1 k1 => ?_, fun K hK => ?_⟩
      · have hc := Kept.cell k1
        go_simp
        first | done | rfl
      go_simp
      refine hK _ ?_
      clear hK K
      refine held_take (i := 1) rfl (by kernel_rfl) (by kernel_rfl) (by kernel_rfl) hQ hK0 (by rfl) ?_
      apply Exists.intro
      refine ⟨fun w1 k1 => ?_, fun K hK => ?_⟩
      · have hc := Kept.cell k1
        go_simp
        first | done | rfl
      go_simp
      refine hK _ ?_
      clear hK K
      refine held_take (i := 2) rfl (by kernel_rfl) (by kernel_rfl) (by kernel_rfl) hQ hK0 (by rfl) ?_
      apply Exists.intro
      refine ⟨fun w1 k1 => ?_, fun K hK => ?_⟩
      · have hc := Kept.cell k1
        go_simp
        first | done | rfl
      go_simp
      refine hK _ ?_
      clear hK K
      refine held_take (i := 3) rfl (by kernel_rfl) (by kernel_rfl) (by kernel_rfl) hQ hK0 (by rfl) ?_
      apply Exists.intro
      refine ⟨fun w1 k1 => ?_, fun K hK => ?_⟩
      · have hc := Kept.cell k1
        go_simp
        first | done | rfl
      go_simp
      refine hK _ ?_
      clear hK K
      refine held_take (i := 4) rfl (by kernel_rfl) (by kernel_rfl) (by kernel_rfl) hQ hK0 (by rfl) ?_
      apply Exists.intro
      refine ⟨fun w1 k1 => ?_, fun K hK => ?_⟩
      · have hc := Kept.cell k1
        go_simp
        first | done | rfl
      go_simp
      refine hK _ ?_
      clear hK K
      refine held_take (i := 5) rfl (by kernel_rfl) (by kernel_rfl) (by kernel_rfl) hQ hK0 (by rfl) ?_
      apply Exists.intro
      refine ⟨fun w1 k1 => ?_, fun K hK => ?_⟩
      · have hc := Kept.cell k1
        go_simp
        first | done | rfl
      go_simp
      refine hK _ ?_
      clear hK K
      refine held_take (i := 6) rfl (by kernel_rfl) (by kernel_rfl) (by kernel_rfl) hQ hK0 (by rfl) ?_
      apply Exists.intro
      refine ⟨fun w1 k1 => ?_, fun K hK => ?_⟩
      · have hc := Kept.cell k1
        go_simp
        first | done | rfl
      go_simp
      refine hK _ ?_
      clear hK K
      refine held_take (i := 7) rfl (by kernel_rfl) (by kernel_rfl) (by kernel_rfl) hQ hK0 (by rfl) ?_
      apply Exists.intro
      refine ⟨fun w1 k1 => ?_, fun K hK => ?_⟩
      · have hc := Kept.cell k1
        go_simp
        first | done | rfl
      go_simp
      refine hK _ ?_
      clear hK K
      refine held_take (i := 8) rfl (by kernel_rfl) (by kernel_rfl) (by kernel_rfl) hQ hK0 (by rfl) ?_
      apply Exists.intro
      refine ⟨fun w1 k1 => ?_, fun K hK => ?_⟩
      · have hc := Kept.cell k1
        go_simp
        first | done | rfl
      go_simp
      refine hK _ ?_
      clear hK K
      refine held_take (i := 9) rfl (by kernel_rfl) (by kernel_rfl) (by kernel_rfl) hQ hK0 (by rfl) ?_
      apply Exists.intro
      refine ⟨fun w1 k1 => ?_, fun K hK => ?_⟩
      · have hc := Kept.cell k1
        go_simp
        first | done | rfl
      go_simp
      refine hK _ ?_
      clear hK K
      refine held_take (i := 10) rfl (by kernel_rfl) (by kernel_rfl) (by kernel_rfl) hQ hK0 (by rfl) ?_
      apply Exists.intro
      refine ⟨fun w1 k1 => ?_, fun K hK => ?_⟩
      · have hc := Kept.cell k1
        go_simp
        first | done | rfl
      go_simp
      refine hK _ ?_
      clear hK K
      refine held_take (i := 11) rfl (by kernel_rfl) (by kernel_rfl) (by kernel_rfl) hQ hK0 (by rfl) ?_
      apply Exists.intro
      refine ⟨fun w1 k1 => ?_, fun K hK => ?_⟩
      · have hc := Kept.cell k1
        go_simp
        first | done | rfl
      go_simp
      refine hK _ ?_
      clear hK K
      refine held_take (i := 12) rfl (by kernel_rfl) (by kernel_rfl) (by kernel_rfl) hQ hK0 (by rfl) ?_
      apply Exists.intro
      refine ⟨fun w1 k1 => ?_, fun K hK => ?_⟩
      · have hc := Kept.cell k1
        go_simp
        first | done | rfl
      go_simp
      refine hK _ ?_
      clear hK K
      refine held_take (i := 13) rfl (by kernel_rfl) (by kernel_rfl) (by kernel_rfl) hQ hK0 (by rfl) ?_
      apply Exists.intro
      refine ⟨fun w1 k1 => ?_, fun K hK => ?_⟩
      · have hc := Kept.cell k1
        go_simp
        first | done | rfl
      go_simp
      refine hK _ ?_
      clear hK K
      refine held_take (i := 14) rfl (by kernel_rfl) (by kernel_rfl) (by kernel_rfl) hQ hK0 (by rfl) ?_
      apply Exists.intro
      refine ⟨fun w1 k1 => ?_, fun K hK => ?_⟩
      · have hc := Kept.cell k1
        go_simp
        first | done | rfl
      go_simp
      refine hK _ ?_
      clear hK K
      refine held_take (i := 15) rfl (by kernel_rfl) (by kernel_rfl) (by kernel_rfl) hQ hK0 (by rfl) ?_
      apply Exists.intro
      refine ⟨fun w1 k1 => ?_, fun K hK => ?_⟩
      · have hc := Kept.cell k1
        go_simp
        first | done | rfl
      go_simp
      refine hK _ ?_
      clear hK K
      refine held_take (i := 16) rfl (by kernel_rfl) (by kernel_rfl) (by kernel_rfl) hQ hK0 (by rfl) ?_
      apply Exists.intro
      refine ⟨fun w1 k1 => ?_, fun K hK => ?_⟩
      · have hc := Kept.cell k1
        go_simp
        first | done | rfl
      go_simp
      refine hK _ ?_
      clear hK K
      refine held_take (i := 17) rfl (by kernel_rfl) (by kernel_rfl) (by kernel_rfl) hQ hK0 (by rfl) ?_
      apply Exists.intro
      refine ⟨fun w1 k1 => ?_, fun K hK => ?_⟩
      · have hc := Kept.cell k1
        go_simp
        first | done | rfl
      go_simp
      refine hK _ ?_
      clear hK K
      refine held_take (i := 18) rfl (by kernel_rfl) (by kernel_rfl) (by kernel_rfl) hQ hK0 (by rfl) ?_
      apply Exists.intro
      refine ⟨fun w1 k1 => ?_, fun K hK => ?_⟩
      · have hc := Kept.cell k1
        go_simp
        first | done | rfl
      go_simp
      refine hK _ ?_
      clear hK K
      refine held_take (i := 19) rfl (by kernel_rfl) (by kernel_rfl) (by kernel_rfl) hQ hK0 (by rfl) ?_
      apply Exists.intro
      refine ⟨fun w1 k1 => ?_, fun K hK => ?_⟩
      · have hc := Kept.cell k1
        go_simp
        first | done | rfl
      go_simp
      refine hK _ ?_
      clear hK K
      refine held_take (i := 22) rfl (by kernel_rfl) (by kernel_rfl) (by kernel_rfl) hQ hK0 (by rfl) ?_
      apply Exists.intro
      refine ⟨fun w1 k1 => ?_, fun K hK => ?_⟩
      · have hc := Kept.cell k1
        go_simp
        first | done | rfl
      go_simp
      refine hK _ ?_
      clear hK K
      refine held_one (i := 20) rfl (by kernel_rfl) (by rfl) ?_
      refine wp_of_made (L := QV k A D) ?_ ?_
      · exact made_call (by go_simp; first | done | rfl) (qV_made RB.out (IRD.out _ hK0))
      rintro x1 v hb ⟨ao21, ca21, bo21, cb21, rfl, hq21⟩
      have hK1 := Kept.trans hK0 hb
      refine ⟨hK1, ?_⟩
      refine norm_act fun K hK => ?_
      go_simp
      refine hK _ ?_
      clear hK K
      refine held_take (i := 21) rfl (by kernel_rfl) (by kernel_rfl) (by kernel_rfl) hQ hK1 (by rfl) ?_
      apply Exists.intro
      refine ⟨fun w1 k1 => ?_, fun K hK => ?_⟩
      · have hc := Kept.cell k1
        go_simp
        first | done | rfl
      go_simp
      refine hK _ ?_
      clear hK K
      refine held_one (i := 23) rfl (by kernel_rfl) (by rfl) ?_
      refine wp_of_made (L := SaidV (.bool true)) ?_ ?_
      · exact made_call (by go_simp; first | done | rfl) (saidV_made (sameT_made (iSame_any _ _ _ _ k k ao21 bo21 ao bo1 ca21 cb21 ca cb1 A D A D _ hq21.1 hq21.2 (RA15.out.keep (Kept.below hK1) (by omega)) (RD15.out.keep (Kept.below hK1) (by omega)) (Nat.le_refl _) (by have := Below.size hK1; omega) (by omega) (by omega) (by omega) (by omega))))
      rintro x2 v hb ⟨⟩
      have hK2 := Kept.trans hK1 hb
      refine ⟨hK2, ?_⟩
      refine norm_act fun K hK => ?_
      go_simp
      refine hK _ ?_
      clear hK K
      refine held_take (i := 24) rfl (by kernel_rfl) (by kernel_rfl) (by kernel_rfl) hQ hK2 (by rfl) ?_
      apply Exists.intro
      refine ⟨fun w1 k1 => ?_, fun K hK => ?_⟩
      · have hc := Kept.cell k1
        go_simp
        first | done | rfl
      go_simp
      refine hK _ ?_
      clear hK K
      refine held_take (i := 25) rfl (by kernel_rfl) (by kernel_rfl) (by kernel_rfl) hQ hK2 (by rfl) ?_
      apply Exists.intro
      refine ⟨fun w1 k1 => ?_, fun K hK => ?_⟩
      · have hc := Kept.cell k1
        go_simp
        first | done | rfl
      go_simp
      refine hK _ ?_
      clear hK K
      refine held_take (i := 26) rfl (by kernel_rfl) (by kernel_rfl) (by kernel_rfl) hQ hK2 (by rfl) ?_
      apply Exists.intro
      refine ⟨fun w1 k1 => ?_, fun K hK => ?_⟩
      · have hc := Kept.cell k1
        go_simp
        first | done | rfl
      go_simp
      refine hK _ ?_
      clear hK K
      refine held_take (i := 27) rfl (by kernel_rfl) (by kernel_rfl) (by kernel_rfl) hQ hK2 (by rfl) ?_
      apply Exists.intro
      refine ⟨fun w1 k1 => ?_, fun K hK => ?_⟩
      · have hc := Kept.cell k1
        go_simp
        first | done | rfl
      go_simp
      refine hK _ ?_
      clear hK K
      refine held_take (i := 28) rfl (by kernel_rfl) (by kernel_rfl) (by kernel_rfl) hQ hK2 (by rfl) ?_
      apply Exists.intro
      refine ⟨fun w1 k1 => ?_, fun K hK => ?_⟩
      · have hc := Kept.cell k1
        go_simp
        first | done | rfl
      go_simp
      refine hK _ ?_
      clear hK K
      refine held_one (i := 29) rfl (by kernel_rfl) (by rfl) ?_
      refine wp_of_made (L := QV k A D) ?_ ?_
      · exact made_call (by go_simp; first | done | rfl) (qV_made RB.out (IRD.out _ hK2))
      rintro x3 v hb ⟨ao22, ca22, bo22, cb22, rfl, hq22⟩
      have hK3 := Kept.trans hK2 hb
      refine ⟨hK3, ?_⟩
      refine norm_act fun K hK => ?_
      go_simp
      refine hK _ ?_
      clear hK K
      refine held_take (i := 30) rfl (by kernel_rfl) (by kernel_rfl) (by kernel_rfl) hQ hK3 (by rfl) ?_
      apply Exists.intro
      refine ⟨fun w1 k1 => ?_, fun K hK => ?_⟩
      · have hc := Kept.cell k1
        go_simp
        first | done | rfl
      go_simp
      refine hK _ ?_
      clear hK K
      refine held_take (i := 31) rfl (by kernel_rfl) (by kernel_rfl) (by kernel_rfl) hQ hK3 (by rfl) ?_
      apply Exists.intro
      refine ⟨fun w1 k1 => ?_, fun K hK => ?_⟩
      · have hc := Kept.cell k1
        go_simp
        first | done | rfl
      go_simp
      refine hK _ ?_
      clear hK K
      refine held_take (i := 32) rfl (by kernel_rfl) (by kernel_rfl) (by kernel_rfl) hQ hK3 (by rfl) ?_
      apply Exists.intro
      refine ⟨fun w1 k1 => ?_, fun K hK => ?_⟩
      · have hc := Kept.cell k1
        go_simp
        first | done | rfl
      go_simp
      refine hK _ ?_
      clear hK K
      refine held_take (i := 33) rfl (by kernel_rfl) (by kernel_rfl) (by kernel_rfl) hQ hK3 (by rfl) ?_
      apply Exists.intro
      refine ⟨fun w1 k1 => ?_, fun K hK => ?_⟩
      · have hc := Kept.cell k1
        go_simp
        first | done | rfl
      go_simp
      refine hK _ ?_
      clear hK K
      refine held_take (i := 34) rfl (by kernel_rfl) (by kernel_rfl) (by kernel_rfl) hQ hK3 (by rfl) ?_
      apply Exists.intro
      refine ⟨fun w1 k1 => ?_, fun K hK => ?_⟩
      · have hc := Kept.cell k1
        go_simp
        first | done | rfl
      go_simp
      refine hK _ ?_
      clear hK K
      refine held_take (i := 35) rfl (by kernel_rfl) (by kernel_rfl) (by kernel_rfl) hQ hK3 (by rfl) ?_
      apply Exists.intro
      refine ⟨fun w1 k1 => ?_, fun K hK => ?_⟩
      · have hc := Kept.cell k1
        go_simp
        first | done | rfl
      go_simp
      refine hK _ ?_
      clear hK K
      refine held_take (i := 36) rfl (by kernel_rfl) (by kernel_rfl) (by kernel_rfl) hQ hK3 (by rfl) ?_
      apply Exists.intro
      refine ⟨fun w1 k1 => ?_, fun K hK => ?_⟩
      · have hc := Kept.cell k1
        go_simp
        first | done | rfl
      go_simp
      refine hK _ ?_
      clear hK K
      refine held_take (i := 37) rfl (by kernel_rfl) (by kernel_rfl) (by kernel_rfl) hQ hK3 (by rfl) ?_
      apply Exists.intro
      refine ⟨fun w1 k1 => ?_, fun K hK => ?_⟩
      · have hc := Kept.cell k1
        go_simp
        first | done | rfl
      go_simp
      refine hK _ ?_
      clear hK K
      refine held_take (i := 38) rfl (by kernel_rfl) (by kernel_rfl) (by kernel_rfl) hQ hK3 (by rfl) ?_
      apply Exists.intro
      refine ⟨fun w1 k1 => ?_, fun K hK => ?_⟩
      · have hc := Kept.cell k1
        go_simp
        first | done | rfl
      go_simp
      refine hK _ ?_
      clear hK K
      refine held_take (i := 39) rfl (by kernel_rfl) (by kernel_rfl) (by kernel_rfl) hQ hK3 (by rfl) ?_
      apply Exists.intro
      refine ⟨fun w1 k1 => ?_, fun K hK => ?_⟩
      · have hc := Kept.cell k1
        go_simp
        first | done | rfl
      go_simp
      refine hK _ ?_
      clear hK K
      refine held_take (i := 40) rfl (by kernel_rfl) (by kernel_rfl) (by kernel_rfl) hQ hK3 (by rfl) ?_
      apply Exists.intro
      refine ⟨fun w1 k1 => ?_, fun K hK => ?_⟩
      · have hc := Kept.cell k1
        go_simp
        first | done | rfl
      go_simp
      refine hK _ ?_
      clear hK K
      refine held_take (i := 43) rfl (by kernel_rfl) (by kernel_rfl) (by kernel_rfl) hQ hK3 (by rfl) ?_
      apply Exists.intro
      refine ⟨fun w1 k1 => ?_, fun K hK => ?_⟩
      · have hc := Kept.cell k1
        go_simp
        first | done | rfl
      go_simp
      refine hK _ ?_
      clear hK K
      refine held_one (i := 41) rfl (by kernel_rfl) (by rfl) ?_
      refine wp_of_made (L := QV k A D) ?_ ?_
      · exact made_call (by go_simp; first | done | rfl) (qV_made RB.out (IPS.out _ hK3))
      rintro x4 v hb ⟨ao23, ca23, bo23, cb23, rfl, hq23⟩
      have hK4 := Kept.trans hK3 hb
      refine ⟨hK4, ?_⟩
      refine norm_act fun K hK => ?_
      go_simp
      refine hK _ ?_
      clear hK K
      refine held_take (i := 42) rfl (by kernel_rfl) (by kernel_rfl) (by kernel_rfl) hQ hK4 (by rfl) ?_
      apply Exists.intro
      refine ⟨fun w1 k1 => ?_, fun K hK => ?_⟩
      · have hc := Kept.cell k1
        go_simp
        first | done | rfl
      go_simp
      refine hK _ ?_
      clear hK K
      refine held_one (i := 44) rfl (by kernel_rfl) (by rfl) ?_
      refine wp_of_made (L := SaidV (.bool true)) ?_ ?_
      · exact made_call (by go_simp; first | done | rfl) (saidV_made (sameT_made (iSame_any _ _ _ _ k k ao23 bo23 ao bo1 ca23 cb23 ca cb1 A D A D _ hq23.1 hq23.2 (RA15.out.keep (Kept.below hK4) (by omega)) (RD15.out.keep (Kept.below hK4) (by omega)) (Nat.le_refl _) (by have := Below.size hK4; omega) (by omega) (by omega) (by omega) (by omega))))
      rintro x5 v hb ⟨⟩
      have hK5 := Kept.trans hK4 hb
      refine ⟨hK5, ?_⟩
      refine norm_act fun K hK => ?_
      go_simp
      refine hK _ ?_
      clear hK K
      refine held_take (i := 45) rfl (by kernel_rfl) (by kernel_rfl) (by kernel_rfl) hQ hK5 (by rfl) ?_
      apply Exists.intro
      refine ⟨fun w1 k1 => ?_, fun K hK => ?_⟩
      · have hc := Kept.cell k1
        go_simp
        first | done | rfl
      go_simp
      refine hK _ ?_
      clear hK K
      refine held_take (i := 46) rfl (by kernel_rfl) (by kernel_rfl) (by kernel_rfl) hQ hK5 (by rfl) ?_
      apply Exists.intro
      refine ⟨fun w1 k1 => ?_, fun K hK => ?_⟩
      · have hc := Kept.cell k1
        go_simp
        first | done | rfl
      go_simp
      refine hK _ ?_
      clear hK K
      refine wpAnyH_done (by kernel_rfl) ?_ _
      subst hQQ
      have K16 := hideP (K15.out.trans ((Kept.below hK5).mono (by omega)))
      clear hQ hK0
      go_wp2
      go_returns
      exact ⟨rfl, K16.out⟩
    · have hb0 : (C == 0) = false := by simpa using hc0
      have e4 : (C == C) = true := by simp
      clear Q12
      go_wp2_with fail
      generalize w12.alloc (.cells #[.int .i64 C, .slice ap P.length cp] 35) = w13 at *
      have SPK := hideP (fun w' (kw : Kept w13 w') => HSPK.out _ _ ao bo1 ca cb1 w' (RA13.out.keep (Kept.below kw) (by omega)) (RD13.out.keep (Kept.below kw) (by omega)) (by have := Below.size kw; omega))
      have IFT := hideP (fun w' (kw : Kept w13 w') => HIFT.out _ _ ao bo1 ca cb1 w' (RA13.out.keep (Kept.below kw) (by omega)) (by have := Below.size kw; omega))
      have m1 : w12.heap.size < w13.heap.size := by omega
      have m2 : w10.heap.size < w13.heap.size := by omega
      obtain ⟨p0, p1, p2, p3, p4⟩ := G13.out.box
      obtain ⟨r0, r1, r2, r3, r4, r5, r6⟩ := Q13.out
      clear hc0
      refine wp_region_held (S := Kept w13) (by kernel_rfl) ?_
      show wpAnyH _ _ _ _ _ 14 (Array.replicate 14 false) _ (w13).drew
      have hK0 : Kept (w13) (w13).drew := (Below.refl _ _).drew
      generalize hQQ : (Exit.then _ _ : Exit → Act → World → Prop) = QQ
      have hQ : ∀ c a d v w, QQ (.panic c) (Act.put a d v) w → QQ (.panic c) a w := by
        subst hQQ
        intro c a d v w h
        cases d <;> exact h
      refine held_take (i := 0) rfl (by kernel_rfl) (by kernel_rfl) (by kernel_rfl) hQ hK0 (by rfl) ?_
      apply Exists.intro
      refine ⟨fun w1 k1 => ?_, fun K hK => ?_⟩
      · have hc := Kept.cell k1
        go_simp
        first | done | rfl
      go_simp
      refine hK _ ?_
      clear hK K
      refine held_take (i := 3) rfl (by kernel_rfl) (by kernel_rfl) (by kernel_rfl) hQ hK0 (by rfl) ?_
      apply Exists.intro
      refine ⟨fun w1 k1 => ?_, fun K hK => ?_⟩
      · have hc := Kept.cell k1
        go_simp
        first | done | rfl
      go_simp
      refine hK _ ?_
      clear hK K
      refine held_take (i := 4) rfl (by kernel_rfl) (by kernel_rfl) (by kernel_rfl) hQ hK0 (by rfl) ?_
      apply Exists.intro
      refine ⟨fun w1 k1 => ?_, fun K hK => ?_⟩
      · have hc := Kept.cell k1
        go_simp
        first | done | rfl
      go_simp
      refine hK _ ?_
      clear hK K
      refine held_one (i := 1) rfl (by kernel_rfl) (by rfl) ?_
      refine wp_of_made (L := PkC C) ?_ ?_
      · exact made_call (by go_simp; first | done | rfl) (pkC_made (SPK.out _ hK0))
      rintro x1 v hb ⟨e1, e2, e3, rfl⟩
      have hK1 := Kept.trans hK0 hb
      refine ⟨hK1, ?_⟩
      refine norm_act fun K hK => ?_
      go_simp
      refine hK _ ?_
      clear hK K
      refine held_take (i := 2) rfl (by kernel_rfl) (by kernel_rfl) (by kernel_rfl) hQ hK1 (by rfl) ?_
      apply Exists.intro
      refine ⟨fun w1 k1 => ?_, fun K hK => ?_⟩
      · have hc := Kept.cell k1
        go_simp
        first | done | rfl
      go_simp
      refine hK _ ?_
      clear hK K
      refine held_take (i := 5) rfl (by kernel_rfl) (by kernel_rfl) (by kernel_rfl) hQ hK1 (by rfl) ?_
      apply Exists.intro
      refine ⟨fun w1 k1 => ?_, fun K hK => ?_⟩
      · have hc := Kept.cell k1
        go_simp
        first | done | rfl
      go_simp
      refine hK _ ?_
      clear hK K
      refine held_take (i := 6) rfl (by kernel_rfl) (by kernel_rfl) (by kernel_rfl) hQ hK1 (by rfl) ?_
      apply Exists.intro
      refine ⟨fun w1 k1 => ?_, fun K hK => ?_⟩
      · have hc := Kept.cell k1
        go_simp
        first | done | rfl
      go_simp
      refine hK _ ?_
      clear hK K
      refine held_take (i := 7) rfl (by kernel_rfl) (by kernel_rfl) (by kernel_rfl) hQ hK1 (by rfl) ?_
      apply Exists.intro
      refine ⟨fun w1 k1 => ?_, fun K hK => ?_⟩
      · have hc := Kept.cell k1
        go_simp
        first | done | rfl
      go_simp
      refine hK _ ?_
      clear hK K
      refine held_take (i := 9) rfl (by kernel_rfl) (by kernel_rfl) (by kernel_rfl) hQ hK1 (by rfl) ?_
      apply Exists.intro
      refine ⟨fun w1 k1 => ?_, fun K hK => ?_⟩
      · have hc := Kept.cell k1
        go_simp
        first | done | rfl
      go_simp
      refine hK _ ?_
      clear hK K
      refine held_take (i := 10) rfl (by kernel_rfl) (by kernel_rfl) (by kernel_rfl) hQ hK1 (by rfl) ?_
      apply Exists.intro
      refine ⟨fun w1 k1 => ?_, fun K hK => ?_⟩
      · have hc := Kept.cell k1
        go_simp
        first | done | rfl
      go_simp
      refine hK _ ?_
      clear hK K
      refine held_one (i := 8) rfl (by kernel_rfl) (by rfl) ?_
      refine wp_of_made (L := SaidV (.int .i64 C)) ?_ ?_
      · exact made_call (by go_simp; first | done | rfl) (saidV_made (IFT.out _ hK1))
      rintro x2 v hb ⟨⟩
      have hK2 := Kept.trans hK1 hb
      refine ⟨hK2, ?_⟩
      refine norm_act fun K hK => ?_
      go_simp
      refine hK _ ?_
      clear hK K
      refine held_take (i := 11) rfl (by kernel_rfl) (by kernel_rfl) (by kernel_rfl) hQ hK2 (by rfl) ?_
      apply Exists.intro
      refine ⟨fun w1 k1 => ?_, fun K hK => ?_⟩
      · have hc := Kept.cell k1
        go_simp
        first | done | rfl
      go_simp
      refine hK _ ?_
      clear hK K
      refine held_take (i := 12) rfl (by kernel_rfl) (by kernel_rfl) (by kernel_rfl) hQ hK2 (by rfl) ?_
      apply Exists.intro
      refine ⟨fun w1 k1 => ?_, fun K hK => ?_⟩
      · have hc := Kept.cell k1
        go_simp
        first | done | rfl
      go_simp
      refine hK _ ?_
      clear hK K
      refine held_take (i := 13) rfl (by kernel_rfl) (by kernel_rfl) (by kernel_rfl) hQ hK2 (by rfl) ?_
      apply Exists.intro
      refine ⟨fun w1 k1 => ?_, fun K hK => ?_⟩
      · have hc := Kept.cell k1
        go_simp
        first | done | rfl
      go_simp
      refine hK _ ?_
      clear hK K
      refine wpAnyH_done (by kernel_rfl) ?_ _
      subst hQQ
      have K16 := hideP (K13.out.trans ((Kept.below hK2).mono (by omega)))
      clear hQ hK0
      go_wp2
      go_returns
      exact ⟨rfl, K16.out⟩
end Go.Proofs.YtbceacnadkhdoaaGreatDoor
