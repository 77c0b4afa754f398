/- A text cut at its commas, by the model. A text as a body, by the model. -/
import Derived.Test.YtbceacnadkhdoaaGreatDoorV28
import Derived.Test.YtbceacnadkhdoaaGreatDoorV33
import Derived.Test.YtbceacnadkhdoaaGreatDoorV7
import Derived.Test.YtbceacnadkhdoaaGreatDoorV2
namespace Go.Proofs.YtbceacnadkhdoaaGreatDoor
open Go.RowKit
set_option linter.unusedVariables false

/-- Bytes as a text. -/
def bS (x : List UInt8) : ByteArray := ⟨x.toArray⟩
theorem bS_data (x : List UInt8) : (bS x).data.toList = x := rfl
theorem bS_size (x : List UInt8) : (bS x).size = x.length := by rw [← sz_len, bS_data]
theorem bS_back (s : ByteArray) : bS s.data.toList = s := rfl
theorem ext_bS (s : ByteArray) (a b : Nat) : s.extract a b = bS ((s.data.toList.drop a).take (b - a)) := by
  apply ByteArray.ext
  apply Array.toList_inj.1
  rw [bS_data, ByteArray.data_extract, Array.toList_extract]

/-- How far the text is cut: the words so far, where the next one begins. -/
def Cst (l : List UInt8) (i from' : Nat) (ws : List (List UInt8)) : Prop :=
  (i ≤ l.length ∧ from' ≤ i ∧ cutL l = ws ++ cutL (l.drop from') ∧ ∀ c ∈ (l.drop from').take (i - from'), c ≠ 44) ∨ (i = l.length + 1 ∧ cutL l = ws)
theorem Cst.start (l : List UInt8) : Cst l 0 0 [] := .inl ⟨Nat.zero_le _, Nat.le_refl _, by simp, by simp⟩
theorem Cst.fin {l : List UInt8} {i f : Nat} {ws : List (List UInt8)} (h : Cst l i f ws) (hi : l.length < i) : cutL l = ws := by
  rcases h with ⟨a, _⟩ | ⟨_, b⟩
  · omega
  · exact b
theorem Cst.le {l : List UInt8} {i f : Nat} {ws : List (List UInt8)} (h : Cst l i f ws) (hi : i ≤ l.length) : f ≤ i := by
  rcases h with ⟨_, a, _⟩ | ⟨a, _⟩ <;> omega
theorem take_one (l : List UInt8) (f i : Nat) (h : i < l.length) (hf : f ≤ i) : (l.drop f).take (i + 1 - f) = (l.drop f).take (i - f) ++ [l[i]] := by
  rw [show i + 1 - f = (i - f) + 1 by omega, List.take_succ_eq_append_getElem (by simp; omega), List.getElem_drop]
  congr 2
  congr 1
  omega
theorem drop_at (l : List UInt8) (f i : Nat) (h : i < l.length) (hf : f ≤ i) : l.drop f = (l.drop f).take (i - f) ++ l[i] :: l.drop (i + 1) := by
  have e := (List.take_append_drop (i - f) (l.drop f)).symm
  rw [List.drop_drop, show f + (i - f) = i by omega, List.drop_eq_getElem_cons h] at e
  exact e
theorem Cst.on {l : List UInt8} {i f : Nat} {ws : List (List UInt8)} (h : Cst l i f ws) (hi : i < l.length) (hc : l[i] ≠ 44) : Cst l (i + 1) f ws := by
  rcases h with ⟨_, a, b, c⟩ | ⟨a, _⟩
  · refine .inl ⟨by omega, by omega, b, fun x hx => ?_⟩
    rw [take_one l f i hi a] at hx
    rcases List.mem_append.1 hx with hx | hx
    · exact c x hx
    · simp at hx; subst hx; exact hc
  · omega
theorem Cst.cut {l : List UInt8} {i f : Nat} {ws : List (List UInt8)} (h : Cst l i f ws) (hi : i < l.length) (hc : l[i] = 44) : Cst l (i + 1) (i + 1) (ws ++ [(l.drop f).take (i - f)]) := by
  rcases h with ⟨_, a, b, c⟩ | ⟨a, _⟩
  · refine .inl ⟨by omega, by omega, ?_, by simp⟩
    have e := drop_at l f i hi a
    rw [hc] at e
    rw [b, List.append_assoc]
    congr 1
    conv => lhs; rw [e]
    rw [cutL_at c]
    rfl
  · omega
theorem Cst.last {l : List UInt8} {f : Nat} {ws : List (List UInt8)} (h : Cst l l.length f ws) : Cst l (l.length + 1) (l.length + 1) (ws ++ [(l.drop f).take (l.length - f)]) := by
  rcases h with ⟨_, a, b, c⟩ | ⟨a, _⟩
  · refine .inr ⟨rfl, ?_⟩
    have e : (l.drop f).take (l.length - f) = l.drop f := List.take_of_length_le (by simp)
    rw [e] at c ⊢
    rw [b, cutL_none c]
  · omega
theorem Cst.len {l : List UInt8} {i f : Nat} {ws : List (List UInt8)} (h : Cst l i f ws) : ws.length ≤ l.length + 1 := by
  have hl := cut_len l
  rcases h with ⟨_, _, b, _⟩ | ⟨_, b⟩
  · rw [b] at hl; simp at hl; omega
  · rw [b] at hl; exact hl

theorem OwnS.lit0 (T : TypeId) (w : World) (base : Nat) (hb : base ≤ w.heap.size) : OwnS T (w.alloc (.cells #[] T)) base (some ⟨w.heap.size, 0, none⟩) 0 [] :=
  World.ownsRow_lit (e := T) (size := 1) w #[] 0 hb (Nat.zero_le _) rfl

theorem kal0 (w : World) (o : Obj) : Below w.heap.size w (w.alloc o) := (Below.refl _ _).alloc (Nat.le_refl _) o

set_option maxHeartbeats 2000000 in
theorem cut_any (s : ByteArray) (w : World) (hm : s.size ≤ 1048576) :
    Calls Tryz.prog 51 #[.string s, .int .u8 44] w fun e w' => ∃ ao cap, e = .returned (.slice ao ((cutL s.data.toList).map bS).length cap) ∧ OwnS 9 w' w.heap.size ao cap ((cutL s.data.toList).map bS) ∧ Below w.heap.size w w' := by
  have hm' : (s.size : Int) ≤ 1048576 := by omega
  have hsl := sz_len s
  have SA := hideP (str_at s)
  have EX := hideP (ext_bS s)
  generalize hl : s.data.toList = l at *
  go_enter Tryz.func51, Tryz.ntmps51
  go_wp2
  go_loopw [5, 6, 7] (fun t f i wr => ∃ (j f' : Nat) (ws : List (List UInt8)) (ao1 : Option Addr) (cap1 : Nat), i = .int .i64 j ∧ f = .int .i64 f' ∧ t = .slice ao1 (ws.map bS).length cap1 ∧ OwnS 9 wr w.heap.size ao1 cap1 (ws.map bS) ∧ Below w.heap.size w wr ∧ Hid (Cst l j f' ws)) (fun _ _ i _ => l.length + 1 - (intOf i).toNat)
  case atStart => exact ⟨0, 0, [], _, 0, rfl, rfl, rfl, OwnS.lit0 _ _ _ (Nat.le_refl _), kal0 _ _, Cst.start l⟩
  case round =>
    obtain ⟨j, f', ws, ao1, cap1, rfl, rfl, rfl, O1, k1, HC⟩ := hrel
    have HO1 := hideP O1
    have HK1 := hideP k1
    have hz := k1.size
    have HL1 := hideP (show (ws.map bS).length ≤ 1048576 + 1 by have := HC.out.len; simp; omega)
    clear O1 k1
    by_cases hle : j ≤ l.length
    · have hle' : (j : Int) ≤ (s.size : Int) := by omega
      have hfj := HC.out.le hle
      have hfj' : (f' : Int) ≤ (j : Int) := by omega
      have hj0 : (0 : Int) ≤ (f' : Int) := by omega
      have hsl3 : ∀ w, (Instr.slice 9 (.string s) (some (.int .i64 f')) (some (.int .i64 j)) none).run Tryz.prog w = .ok (.string (bS ((l.drop f').take (j - f')))) w := fun w => by
        go_simp
        rw [EX.out]
      by_cases he : j = l.length
      · subst he
        have hc : ((l.length : Int) == (s.size : Int)) = true := by simp; omega
        have HC' := hideP HC.out.last
        have HM := hideP (show (ws ++ [(l.drop f').take (l.length - f')]).map bS = ws.map bS ++ [bS ((l.drop f').take (l.length - f'))] by simp)
        clear HC hsl
        generalize bS ((l.drop f').take (l.length - f')) = d at *
        generalize ws.map bS = M at *
        go_wp2_with (first | (at_builtin; refine wpList_appS (T := 9) (S := 56) Tryz.underlying56 Tryz.infoS rfl _ _ rfl w.heap.size ao1 cap1 M rfl (HO1.out.alloc _) wr.heap.size 1 d rfl (by rw [World.cell?_alloc_new]; rfl) HL1.out (by simp; omega) ?_; intro ao4 cap4 w4 O4 K4; refine Hid.out ?_) | go_in)
        have HO4 := hideP O4
        have HK5 : Hid (Below w.heap.size w w4) := hideP ((HK1.out.alloc (by omega) _).trans K4)
        clear O4 K4
        refine hideP ?_
        go_wp2
        go_roundw
        case rel => exact ⟨l.length + 1, l.length + 1, _, ao4, cap4, by go_num, by go_num, by rw [HM.out]; simp, by rw [HM.out]; exact HO4.out, HK5.out, HC'.out⟩
        case measure => simp [intOf]
      · have hlt : j < l.length := by omega
        have hc : ((j : Int) == (s.size : Int)) = false := by simp; omega
        have hix := SA.out j hlt
        by_cases hx : l[j] = 44
        · rw [hx] at hix
          have hix' : ∀ w, (Instr.index 9 (.string s) (.int .i64 j)).run Tryz.prog w = .ok (.int .u8 44) w := hix
          have HC' := hideP (HC.out.cut hlt hx)
          have HM := hideP (show (ws ++ [(l.drop f').take (j - f')]).map bS = ws.map bS ++ [bS ((l.drop f').take (j - f'))] by simp)
          clear HC hix hx
          generalize bS ((l.drop f').take (j - f')) = d at *
          generalize ws.map bS = M at *
          go_wp2_with (first | (at_builtin; refine wpList_appS (T := 9) (S := 56) Tryz.underlying56 Tryz.infoS rfl _ _ rfl w.heap.size ao1 cap1 M rfl (HO1.out.alloc _) wr.heap.size 1 d rfl (by rw [World.cell?_alloc_new]; rfl) HL1.out (by simp; omega) ?_; intro ao4 cap4 w4 O4 K4; refine Hid.out ?_) | go_in)
          have HO4 := hideP O4
          have HK5 : Hid (Below w.heap.size w w4) := hideP ((HK1.out.alloc (by omega) _).trans K4)
          clear O4 K4
          refine hideP ?_
          go_wp2
          go_roundw
          case rel => exact ⟨j + 1, j + 1, _, ao4, cap4, by go_num, by go_num, by rw [HM.out]; simp, by rw [HM.out]; exact HO4.out, HK5.out, HC'.out⟩
          case measure => simp [intOf]; omega
        · have hx' : (((l[j].toNat : Nat) : Int) == 44) = false := by
            have h44 : l[j].toNat ≠ 44 := fun e => hx (UInt8.toNat_inj.1 (by show _ = 44; exact e))
            simp; omega
          have HC' := hideP (HC.out.on hlt hx)
          clear HC hx hsl3
          generalize ((l[j].toNat : Nat) : Int) = x at *
          go_wp2
          go_roundw
          case rel => exact ⟨j + 1, f', ws, ao1, cap1, by go_num, rfl, rfl, HO1.out, HK1.out, HC'.out⟩
          case measure => simp [intOf]; omega
    · have hle' : ¬ ((j : Int) ≤ (s.size : Int)) := by omega
      have HE := hideP (HC.out.fin (by omega))
      clear HC
      go_wp2
      go_returns
      exact ⟨ao1, cap1, by rw [HE.out]; rfl, by rw [HE.out]; exact HO1.out, HK1.out⟩

end Go.Proofs.YtbceacnadkhdoaaGreatDoor

namespace Go.Proofs.YtbceacnadkhdoaaGreatDoor
open Go.RowKit
set_option linter.unusedVariables false

/-- The body of a text; nothing, where it is none. -/
def prL (l : List UInt8) : List Int := (psT l).getD []
theorem prL_some {l : List UInt8} {L : List Int} (h : psT l = some L) : prL l = L := by unfold prL; rw [h]; rfl
theorem prL_none {l : List UInt8} (h : psT l = none) : prL l = [] := by unfold prL; rw [h]; rfl

set_option maxHeartbeats 400000 in
theorem in_any (n : Int) (w : World) : Calls Tryz.prog 53 #[.int .i64 n, .int .i64 0, .int .i64 255] w fun e w' => e = .returned (.bool (isB n)) ∧ Below w.heap.size w w' := by
  by_cases h1 : 0 ≤ n
  · by_cases h2 : n ≤ 255
    · have hb : isB n = true := by simp [isB, h1, h2]
      rw [hb]
      go_enter Tryz.func53, Tryz.ntmps53
      go_wp2
      go_returns
      exact ⟨rfl, Below.refl _ _⟩
    · have hb : isB n = false := by simp [isB, h2]
      rw [hb]
      go_enter Tryz.func53, Tryz.ntmps53
      go_wp2
      go_returns
      exact ⟨congrArg (fun b => Ending.returned (.bool b)) (by first | rfl | (simp; omega)), Below.refl _ _⟩
  · have hb : isB n = false := by simp [isB, h1]
    rw [hb]
    go_enter Tryz.func53, Tryz.ntmps53
    go_wp2
    go_returns
    exact ⟨congrArg (fun b => Ending.returned (.bool b)) (by first | rfl | (simp; omega)), Below.refl _ _⟩

/-- The first j words are numbers; what they are. -/
def Wst (ws : List (List UInt8)) (j : Nat) (L : List Int) : Prop := psW (ws.take j) = some L
theorem Wst.start (ws : List (List UInt8)) : Wst ws 0 [] := rfl
theorem rb_isB {l : List UInt8} (h : isB (l3N l) = true) : rb l = some (l3N l).toNat := by rw [rb_l3N, if_pos (isB_yes h)]
theorem rb_not {l : List UInt8} (h : isB (l3N l) = false) : rb l = none := by
  rw [rb_l3N, if_neg]
  intro e
  simp [isB, e] at h
theorem Wst.on {ws : List (List UInt8)} {j : Nat} {L : List Int} (h : Wst ws j L) (hj : j < ws.length) (hb : isB (l3N ws[j]) = true) : Wst ws (j + 1) (L ++ [l3N ws[j]]) := by
  unfold Wst at *
  rw [List.take_succ_eq_append_getElem hj, psW_snoc, h, rb_isB hb]
  have := (isB_yes hb).1
  simp only [Option.some.injEq, List.append_cancel_left_eq, List.cons.injEq, and_true]
  omega
theorem Wst.no {ws : List (List UInt8)} {j : Nat} {L : List Int} (h : Wst ws j L) (hj : j < ws.length) (hb : isB (l3N ws[j]) = false) : psW ws = none := by
  unfold Wst at h
  have e : psW (ws.take (j + 1)) = none := by rw [List.take_succ_eq_append_getElem hj, psW_snoc, h, rb_not hb]
  have := psW_stop _ (ws.drop (j + 1)) e
  rwa [List.take_append_drop] at this
theorem Wst.fin {ws : List (List UInt8)} {L : List Int} (h : Wst ws ws.length L) : psW ws = some L := by
  unfold Wst at h
  rwa [List.take_length] at h
theorem Wst.len {ws : List (List UInt8)} {j : Nat} {L : List Int} (h : Wst ws j L) : L.length ≤ ws.length := by
  have := psW_len h
  simp at this
  omega
theorem Wst.byts {ws : List (List UInt8)} {j : Nat} {L : List Int} (h : Wst ws j L) : byts L := fun i hi => (psW_back h).2 _ (List.getElem_mem _)

end Go.Proofs.YtbceacnadkhdoaaGreatDoor
