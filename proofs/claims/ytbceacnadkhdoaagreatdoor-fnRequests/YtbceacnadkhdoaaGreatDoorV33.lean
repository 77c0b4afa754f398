/- A word as a number, by the model. -/
import Derived.Test.YtbceacnadkhdoaaGreatDoorV5
import Derived.Test.YtbceacnadkhdoaaGreatDoorV22
namespace Go.Proofs.YtbceacnadkhdoaaGreatDoor
open Go.RowKit
set_option linter.unusedVariables false

theorem l3N_none {l : List UInt8} (h : l.length < 1 ∨ 4 < l.length ∨ (1 < l.length ∧ l.head? = some 48)) : l3N l = -1 := by unfold l3N; rw [if_pos h]
theorem l3N_all {l : List UInt8} (h : ¬ (l.length < 1 ∨ 4 < l.length ∨ (1 < l.length ∧ l.head? = some 48))) (hd : l.all isD = true) : l3N l = valD l := by unfold l3N; rw [if_neg h, if_pos hd]
theorem l3N_bad {l : List UInt8} (i : Nat) (hi : i < l.length) (hd : isD l[i] = false) : l3N l = -1 := by
  unfold l3N
  split
  · rfl
  · rw [if_neg]
    intro h
    have := List.all_eq_true.1 h l[i] (List.getElem_mem _)
    rw [hd] at this
    cases this
theorem valD_snoc (l : List UInt8) (i : Nat) (hi : i < l.length) : valD (l.take (i + 1)) = valD (l.take i) * 10 + (l[i].toNat - 48) := by
  unfold valD
  rw [List.take_succ_eq_append_getElem hi, List.foldl_append]
  rfl
theorem valD_le : ∀ l : List UInt8, l.length ≤ 4 → valD l ≤ 2500000
  | [], _ => by decide
  | [a], _ => by have := a.toNat_lt; simp [valD]; omega
  | [a, b], _ => by have := a.toNat_lt; have := b.toNat_lt; simp [valD]; omega
  | [a, b, c], _ => by have := a.toNat_lt; have := b.toNat_lt; have := c.toNat_lt; simp [valD]; omega
  | [a, b, c, d], _ => by have := a.toNat_lt; have := b.toNat_lt; have := c.toNat_lt; have := d.toNat_lt; simp [valD]; omega
  | _ :: _ :: _ :: _ :: _ :: _, h => by simp at h

set_option maxHeartbeats 1000000 in
theorem num_short (s : ByteArray) (w : World) (h : s.size = 0) :
    Calls Tryz.prog 52 #[.string s] w fun e w' => e = .returned (.int .i64 (-1)) ∧ Below w.heap.size w w' := by
  have h1 : ((s.size : Int) < 1) := by omega
  go_enter Tryz.func52, Tryz.ntmps52
  go_wp2
  go_returns
  refine ⟨rfl, ?_⟩
  repeat' (first | (with_reducible exact Below.refl _ _) | (with_reducible refine kept_below ?_ (by assumption) ?_) | (with_reducible refine Below.alloc ?_ ?_ _) | (with_reducible refine Below.drew ?_) | (with_reducible refine Below.setCell ?_ ?_ _) | go_size)

set_option maxHeartbeats 1000000 in
theorem num_long (s : ByteArray) (w : World) (h : 4 < s.size) (hm : s.size ≤ 140737488355328) :
    Calls Tryz.prog 52 #[.string s] w fun e w' => e = .returned (.int .i64 (-1)) ∧ Below w.heap.size w w' := by
  have h1 : ¬ ((s.size : Int) < 1) := by omega
  have h2 : (4 : Int) < (s.size : Int) := by omega
  go_enter Tryz.func52, Tryz.ntmps52
  go_wp2
  go_returns
  refine ⟨rfl, ?_⟩
  repeat' (first | (with_reducible exact Below.refl _ _) | (with_reducible refine kept_below ?_ (by assumption) ?_) | (with_reducible refine Below.alloc ?_ ?_ _) | (with_reducible refine Below.drew ?_) | (with_reducible refine Below.setCell ?_ ?_ _) | go_size)

theorem sz_len (s : ByteArray) : s.data.toList.length = s.size := by rw [Array.length_toList]; rfl

theorem str_at (s : ByteArray) (i : Nat) (h : i < s.data.toList.length) (w : World) : (Instr.index 9 (.string s) (.int .i64 i)).run Tryz.prog w = .ok (.int .u8 ((s.data.toList[i].toNat : Nat) : Int)) w := by
  have hs : i < s.size := by rw [← sz_len]; exact h
  rw [run_index_string w 9 s .i64 i Tryz.underlying9, dif_pos ⟨by omega, by omega⟩]
  rfl

set_option maxHeartbeats 1000000 in
theorem num_zero (s : ByteArray) (w : World) (h : 1 < s.size) (h4 : s.size ≤ 4) (hz : s.data.toList.head? = some 48) :
    Calls Tryz.prog 52 #[.string s] w fun e w' => e = .returned (.int .i64 (-1)) ∧ Below w.heap.size w w' := by
  have h1 : ¬ ((s.size : Int) < 1) := by omega
  have h2 : ¬ ((4 : Int) < (s.size : Int)) := by omega
  have h3 : (1 : Int) < (s.size : Int) := by omega
  have hl : 0 < s.data.toList.length := by rw [sz_len]; omega
  have hix := str_at s 0 hl
  have hx : s.data.toList[0] = 48 := by rw [List.head?_eq_getElem?, List.getElem?_eq_getElem hl] at hz; exact Option.some.inj hz
  rw [hx] at hix
  have hix' : ∀ w, (Instr.index 9 (.string s) (.int .i64 0)).run Tryz.prog w = .ok (.int .u8 48) w := hix
  clear hix hx hz hl
  go_enter Tryz.func52, Tryz.ntmps52
  go_wp2
  go_returns
  refine ⟨rfl, ?_⟩
  repeat' (first | (with_reducible exact Below.refl _ _) | (with_reducible refine kept_below ?_ (by assumption) ?_) | (with_reducible refine Below.alloc ?_ ?_ _) | (with_reducible refine Below.drew ?_) | (with_reducible refine Below.setCell ?_ ?_ _) | go_size)

set_option maxHeartbeats 2000000 in
theorem num_loop (s : ByteArray) (w : World) (h : 0 < s.size) (h4 : s.size ≤ 4) (hz : s.size = 1 ∨ ¬ s.data.toList.head? = some 48) :
    Calls Tryz.prog 52 #[.string s] w fun e w' => e = .returned (.int .i64 (l3N s.data.toList)) ∧ Below w.heap.size w w' := by
  have h1 : ¬ ((s.size : Int) < 1) := by omega
  have h2 : ¬ ((4 : Int) < (s.size : Int)) := by omega
  have hsl : s.data.toList.length = s.size := sz_len s
  have SA := hideP (str_at s)
  have HN : Hid (¬ (s.data.toList.length < 1 ∨ 4 < s.data.toList.length ∨ (1 < s.data.toList.length ∧ s.data.toList.head? = some 48))) := hideP (by
    rintro (a | a | ⟨a, b⟩)
    · omega
    · omega
    · rcases hz with hz | hz
      · omega
      · exact hz b)
  have hl0 : 0 < s.data.toList.length := by omega
  have hx0 : s.size = 1 ∨ ((s.data.toList[0].toNat : Nat) : Int) ≠ 48 := by
    rcases hz with hz | hz
    · exact .inl hz
    · refine .inr fun e => hz ?_
      rw [List.head?_eq_getElem?, List.getElem?_eq_getElem hl0]
      exact congrArg some (UInt8.toNat_inj.1 (by show _ = 48; omega))
  have hix0 : ∀ w, (Instr.index 9 (.string s) (.int .i64 0)).run Tryz.prog w = .ok (.int .u8 ((s.data.toList[0].toNat : Nat) : Int)) w := str_at s 0 hl0
  generalize ((s.data.toList[0].toNat : Nat) : Int) = x0 at hx0 hix0
  generalize s.data.toList = l at *
  clear hz
  rcases hx0 with hx0 | hx0
  · have h3 : ¬ ((1 : Int) < (s.size : Int)) := by omega
    go_enter Tryz.func52, Tryz.ntmps52
    go_wp2
    clear h1 h2 h3 hix0
    go_loopw [3, 4] (fun n i wr => ∃ j : Nat, j ≤ l.length ∧ i = .int .i64 j ∧ n = .int .i64 (valD (l.take j) : Nat) ∧ Below w.heap.size w wr ∧ Hid (∀ i (h : i < l.length), i < j → isD l[i] = true)) (fun _ i _ => l.length - (intOf i).toNat)
    case atStart => exact ⟨0, Nat.zero_le _, rfl, rfl, Below.refl _ _, fun i _ hi => absurd hi (Nat.not_lt_zero _)⟩
    case round =>
      obtain ⟨j, hj, rfl, rfl, hbel, HF⟩ := hrel
      have hz := hbel.size
      have HBel := hideP hbel
      clear hbel
      by_cases hlt : j < l.length
      · have hlt' : (j : Int) < (s.size : Int) := by omega
        have hix := SA.out j hlt
        have HV := hideP (valD_snoc l j hlt)
        have hvl : valD (l.take j) ≤ 2500000 := valD_le _ (by simp; omega)
        have hb := l[j].toNat_lt
        have HB := hideP (l3N_bad j hlt)
        have HS : Hid (isD l[j] = true → ∀ i (h : i < l.length), i < j + 1 → isD l[i] = true) := hideP fun e i hi hij => by
          by_cases a : i < j
          · exact HF.out i hi a
          · obtain rfl : i = j := by omega
            exact e
        have hd : isD l[j] = decide (48 ≤ l[j].toNat ∧ l[j].toNat ≤ 57) := rfl
        rw [hd] at HB HS
        clear hd HF
        generalize l[j].toNat = x at *
        generalize valD (l.take j) = v at *
        by_cases hx1 : x < 48
        · have hx1' : (x : Int) < 48 := by omega
          have HB' := hideP (HB.out (by simp; omega))
          clear HB HS HV
          go_wp2
          go_returns
          exact ⟨by rw [HB'.out]; rfl, HBel.out⟩
        · by_cases hx2 : 57 < x
          · have hx1' : ¬ ((x : Int) < 48) := by omega
            have hx2' : (57 : Int) < (x : Int) := by omega
            have HB' := hideP (HB.out (by simp; omega))
            clear HB HS HV
            go_wp2
            go_returns
            exact ⟨by rw [HB'.out]; rfl, HBel.out⟩
          · have hx1' : ¬ ((x : Int) < 48) := by omega
            have hx2' : ¬ ((57 : Int) < (x : Int)) := by omega
            have hx3 : (48 : Int) ≤ (x : Int) := by omega
            have hx4 : (x : Int) ≤ 57 := by omega
            have HS' := hideP (HS.out (by simp; omega))
            clear HB HS
            go_wp2
            go_roundw
            case rel => exact ⟨j + 1, by omega, by go_num, by rw [HV.out]; go_num, HBel.out, HS'.out⟩
            case measure => simp [intOf]; omega
      · obtain rfl : j = l.length := by omega
        have HE := hideP (l3N_all HN.out (List.all_eq_true.2 fun c hc => by
          obtain ⟨i, hi, rfl⟩ := List.getElem_of_mem hc
          exact HF.out i hi hi))
        clear HF
        go_wp2
        go_returns
        exact ⟨by rw [HE.out, List.take_length]; rfl, HBel.out⟩
  · by_cases h3 : (1 : Int) < (s.size : Int)
    · have hb : (x0 == 48) = false := by simpa using hx0
      go_enter Tryz.func52, Tryz.ntmps52
      go_wp2
      clear h1 h2 h3 hix0
      go_loopw [3, 4] (fun n i wr => ∃ j : Nat, j ≤ l.length ∧ i = .int .i64 j ∧ n = .int .i64 (valD (l.take j) : Nat) ∧ Below w.heap.size w wr ∧ Hid (∀ i (h : i < l.length), i < j → isD l[i] = true)) (fun _ i _ => l.length - (intOf i).toNat)
      case atStart => exact ⟨0, Nat.zero_le _, rfl, rfl, Below.refl _ _, fun i _ hi => absurd hi (Nat.not_lt_zero _)⟩
      case round =>
        obtain ⟨j, hj, rfl, rfl, hbel, HF⟩ := hrel
        have hz := hbel.size
        have HBel := hideP hbel
        clear hbel
        by_cases hlt : j < l.length
        · have hlt' : (j : Int) < (s.size : Int) := by omega
          have hix := SA.out j hlt
          have HV := hideP (valD_snoc l j hlt)
          have hvl : valD (l.take j) ≤ 2500000 := valD_le _ (by simp; omega)
          have hb := l[j].toNat_lt
          have HB := hideP (l3N_bad j hlt)
          have HS : Hid (isD l[j] = true → ∀ i (h : i < l.length), i < j + 1 → isD l[i] = true) := hideP fun e i hi hij => by
            by_cases a : i < j
            · exact HF.out i hi a
            · obtain rfl : i = j := by omega
              exact e
          have hd : isD l[j] = decide (48 ≤ l[j].toNat ∧ l[j].toNat ≤ 57) := rfl
          rw [hd] at HB HS
          clear hd HF
          generalize l[j].toNat = x at *
          generalize valD (l.take j) = v at *
          by_cases hx1 : x < 48
          · have hx1' : (x : Int) < 48 := by omega
            have HB' := hideP (HB.out (by simp; omega))
            clear HB HS HV
            go_wp2
            go_returns
            exact ⟨by rw [HB'.out]; rfl, HBel.out⟩
          · by_cases hx2 : 57 < x
            · have hx1' : ¬ ((x : Int) < 48) := by omega
              have hx2' : (57 : Int) < (x : Int) := by omega
              have HB' := hideP (HB.out (by simp; omega))
              clear HB HS HV
              go_wp2
              go_returns
              exact ⟨by rw [HB'.out]; rfl, HBel.out⟩
            · have hx1' : ¬ ((x : Int) < 48) := by omega
              have hx2' : ¬ ((57 : Int) < (x : Int)) := by omega
              have hx3 : (48 : Int) ≤ (x : Int) := by omega
              have hx4 : (x : Int) ≤ 57 := by omega
              have HS' := hideP (HS.out (by simp; omega))
              clear HB HS
              go_wp2
              go_roundw
              case rel => exact ⟨j + 1, by omega, by go_num, by rw [HV.out]; go_num, HBel.out, HS'.out⟩
              case measure => simp [intOf]; omega
        · obtain rfl : j = l.length := by omega
          have HE := hideP (l3N_all HN.out (List.all_eq_true.2 fun c hc => by
            obtain ⟨i, hi, rfl⟩ := List.getElem_of_mem hc
            exact HF.out i hi hi))
          clear HF
          go_wp2
          go_returns
          exact ⟨by rw [HE.out, List.take_length]; rfl, HBel.out⟩
    · go_enter Tryz.func52, Tryz.ntmps52
      go_wp2
      clear h1 h2 h3 hix0
      go_loopw [3, 4] (fun n i wr => ∃ j : Nat, j ≤ l.length ∧ i = .int .i64 j ∧ n = .int .i64 (valD (l.take j) : Nat) ∧ Below w.heap.size w wr ∧ Hid (∀ i (h : i < l.length), i < j → isD l[i] = true)) (fun _ i _ => l.length - (intOf i).toNat)
      case atStart => exact ⟨0, Nat.zero_le _, rfl, rfl, Below.refl _ _, fun i _ hi => absurd hi (Nat.not_lt_zero _)⟩
      case round =>
        obtain ⟨j, hj, rfl, rfl, hbel, HF⟩ := hrel
        have hz := hbel.size
        have HBel := hideP hbel
        clear hbel
        by_cases hlt : j < l.length
        · have hlt' : (j : Int) < (s.size : Int) := by omega
          have hix := SA.out j hlt
          have HV := hideP (valD_snoc l j hlt)
          have hvl : valD (l.take j) ≤ 2500000 := valD_le _ (by simp; omega)
          have hb := l[j].toNat_lt
          have HB := hideP (l3N_bad j hlt)
          have HS : Hid (isD l[j] = true → ∀ i (h : i < l.length), i < j + 1 → isD l[i] = true) := hideP fun e i hi hij => by
            by_cases a : i < j
            · exact HF.out i hi a
            · obtain rfl : i = j := by omega
              exact e
          have hd : isD l[j] = decide (48 ≤ l[j].toNat ∧ l[j].toNat ≤ 57) := rfl
          rw [hd] at HB HS
          clear hd HF
          generalize l[j].toNat = x at *
          generalize valD (l.take j) = v at *
          by_cases hx1 : x < 48
          · have hx1' : (x : Int) < 48 := by omega
            have HB' := hideP (HB.out (by simp; omega))
            clear HB HS HV
            go_wp2
            go_returns
            exact ⟨by rw [HB'.out]; rfl, HBel.out⟩
          · by_cases hx2 : 57 < x
            · have hx1' : ¬ ((x : Int) < 48) := by omega
              have hx2' : (57 : Int) < (x : Int) := by omega
              have HB' := hideP (HB.out (by simp; omega))
              clear HB HS HV
              go_wp2
              go_returns
              exact ⟨by rw [HB'.out]; rfl, HBel.out⟩
            · have hx1' : ¬ ((x : Int) < 48) := by omega
              have hx2' : ¬ ((57 : Int) < (x : Int)) := by omega
              have hx3 : (48 : Int) ≤ (x : Int) := by omega
              have hx4 : (x : Int) ≤ 57 := by omega
              have HS' := hideP (HS.out (by simp; omega))
              clear HB HS
              go_wp2
              go_roundw
              case rel => exact ⟨j + 1, by omega, by go_num, by rw [HV.out]; go_num, HBel.out, HS'.out⟩
              case measure => simp [intOf]; omega
        · obtain rfl : j = l.length := by omega
          have HE := hideP (l3N_all HN.out (List.all_eq_true.2 fun c hc => by
            obtain ⟨i, hi, rfl⟩ := List.getElem_of_mem hc
            exact HF.out i hi hi))
          clear HF
          go_wp2
          go_returns
          exact ⟨by rw [HE.out, List.take_length]; rfl, HBel.out⟩

/-- A word's number, by the model. -/
theorem num_any (s : ByteArray) (w : World) (hm : s.size ≤ 140737488355328) :
    Calls Tryz.prog 52 #[.string s] w fun e w' => e = .returned (.int .i64 (l3N s.data.toList)) ∧ Below w.heap.size w w' := by
  have hl := sz_len s
  by_cases h0 : s.size = 0
  · rw [l3N_none (.inl (by omega))]; exact num_short s w h0
  · by_cases h4 : 4 < s.size
    · rw [l3N_none (.inr (.inl (by omega)))]; exact num_long s w h4 hm
    · by_cases hz : 1 < s.size ∧ s.data.toList.head? = some 48
      · rw [l3N_none (.inr (.inr ⟨by omega, hz.2⟩))]; exact num_zero s w hz.1 (by omega) hz.2
      · refine num_loop s w (by omega) (by omega) ?_
        by_cases h1 : s.size = 1
        · exact .inl h1
        · exact .inr fun e => hz ⟨by omega, e⟩

end Go.Proofs.YtbceacnadkhdoaaGreatDoor
