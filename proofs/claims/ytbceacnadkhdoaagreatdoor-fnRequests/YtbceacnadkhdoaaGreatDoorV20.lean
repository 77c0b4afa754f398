/- Numbers in digits: what the model reads as a number from 0 to 255 is what the library reads as one and writes so again. -/
import Derived.Lib.ParseIntB
import Derived.Lib.ItoaNum
namespace Go.Proofs.YtbceacnadkhdoaaGreatDoor
open Go

def isD (c : UInt8) : Bool := decide (48 ≤ c.toNat ∧ c.toNat ≤ 57)
def valD (l : List UInt8) : Nat := l.foldl (fun n c => n * 10 + (c.toNat - 48)) 0
/-- The model's number of a word; -1: it is none. -/
def l3N (l : List UInt8) : Int := if l.length < 1 ∨ 4 < l.length ∨ (1 < l.length ∧ l.head? = some 48) then -1 else if l.all isD then (valD l : Int) else -1
/-- The program's: what is read, if it is written so again. -/
def rb (l : List UInt8) : Option Nat := match Lib.parseUintB 8 l with
  | .ok v => if Lib.decDigits v = l then some v else none
  | _ => none

/-- Up to three digits. -/
def d3 (u : Nat) : List UInt8 := if u < 10 then [UInt8.ofNat (48 + u)] else if u < 100 then [UInt8.ofNat (48 + u / 10), UInt8.ofNat (48 + u % 10)] else [UInt8.ofNat (48 + u / 100), UInt8.ofNat (48 + u / 10 % 10), UInt8.ofNat (48 + u % 10)]
theorem dec_d3 (u : Nat) (h : u < 1000) : Lib.decDigits u = d3 u := by
  unfold d3
  by_cases h1 : u < 10
  · rw [if_pos h1, Lib.decDigits, dif_pos h1]
  · rw [if_neg h1, Lib.decDigits, dif_neg h1]
    by_cases h2 : u < 100
    · rw [if_pos h2, Lib.decDigits, dif_pos (by omega)]; rfl
    · rw [if_neg h2, Lib.decDigits, dif_neg (by omega), Lib.decDigits, dif_pos (by omega), show u / 10 / 10 = u / 100 by omega]; rfl
theorem d3_len (u : Nat) : (d3 u).length ≤ 3 := by unfold d3; split <;> (try split) <;> simp
theorem d3_l3N : ∀ v, v < 256 → l3N (d3 v) = (v : Int) := by decide +kernel

theorem parseM_le (M : Nat) : ∀ (l : List UInt8) (acc v : Nat), acc ≤ M → Lib.parseUintM M acc l = .ok v → v ≤ M := by
  intro l
  induction l with
  | nil => intro acc v h e; simp only [Lib.parseUintM] at e; injection e with e; omega
  | cons c r ih =>
    intro acc v h e
    simp only [Lib.parseUintM] at e
    split at e
    · split at e
      · cases e
      · split at e
        · cases e
        · exact ih _ v (by omega) e
    · cases e
theorem parseB_le {l : List UInt8} {v : Nat} (h : Lib.parseUintB 8 l = .ok v) : v ≤ 255 := by
  unfold Lib.parseUintB at h
  split at h
  · cases h
  · exact parseM_le 255 l 0 v (by omega) h

theorem rb_some {l : List UInt8} {v : Nat} (h : rb l = some v) : v ≤ 255 ∧ l = d3 v := by
  unfold rb at h
  split at h
  · rename_i u hu
    have hle := parseB_le hu
    split at h
    · rename_i he
      injection h with h
      subst h
      exact ⟨hle, by rw [← dec_d3 _ (by omega)]; exact he.symm⟩
    · cases h
  · cases h

theorem isD_iff {c : UInt8} : isD c = true ↔ 48 ≤ c.toNat ∧ c.toNat ≤ 57 := by simp [isD]
theorem u8_back {c : UInt8} {n : Nat} (h : n = c.toNat) : UInt8.ofNat n = c := by rw [h]; simp
theorem ne48 {c : UInt8} (h : ¬ c = 48) : c.toNat ≠ 48 := fun e => h (by rw [← UInt8.toNat_inj, e]; rfl)

theorem back {l : List UInt8} (h0 : 0 ≤ l3N l) (h1 : l3N l ≤ 255) : l = d3 (l3N l).toNat ∧ Lib.parseUintB 8 l = .ok (l3N l).toNat := by
  unfold l3N at h0 h1 ⊢
  by_cases hb : l.length < 1 ∨ 4 < l.length ∨ (1 < l.length ∧ l.head? = some 48)
  · rw [if_pos hb] at h0; omega
  rw [if_neg hb] at h0 h1 ⊢
  have hd : l.all isD = true := by
    by_cases hd : l.all isD = true
    · exact hd
    · rw [if_neg hd] at h0; omega
  rw [if_pos hd] at h0 h1 ⊢
  rw [Int.toNat_natCast]
  have h1' : valD l ≤ 255 := by omega
  clear h0 h1
  match l, hb, hd, h1' with
  | [], hb, _, _ => simp at hb
  | [a], hb, hd, hv =>
    simp only [List.all_cons, List.all_nil, Bool.and_true, isD_iff] at hd
    have e : valD [a] = a.toNat - 48 := by simp [valD]
    rw [e]
    refine ⟨?_, ?_⟩
    · unfold d3; rw [if_pos (by omega), u8_back (c := a) (by omega)]
    · unfold Lib.parseUintB
      rw [if_neg (by simp)]
      simp only [Lib.parseUintM]
      rw [if_pos hd, if_neg (by omega), if_neg (by omega)]
      congr 1
  | [a, b], hb, hd, hv =>
    simp only [List.all_cons, List.all_nil, Bool.and_true, Bool.and_eq_true, isD_iff] at hd
    obtain ⟨ha, hb2⟩ := hd
    have hne : ¬ a = 48 := fun e => hb (.inr (.inr ⟨by simp, by rw [e]; rfl⟩))
    have hne := ne48 hne
    have e : valD [a, b] = (a.toNat - 48) * 10 + (b.toNat - 48) := by simp [valD]
    rw [e]
    refine ⟨?_, ?_⟩
    · unfold d3; rw [if_neg (by omega), if_pos (by omega), u8_back (c := a) (by omega), u8_back (c := b) (by omega)]
    · unfold Lib.parseUintB
      rw [if_neg (by simp)]
      simp only [Lib.parseUintM]
      rw [if_pos ha, if_neg (by omega), if_neg (by omega), if_pos hb2, if_neg (by omega), if_neg (by omega)]
      congr 1
  | [a, b, c], hb, hd, hv =>
    simp only [List.all_cons, List.all_nil, Bool.and_true, Bool.and_eq_true, isD_iff] at hd
    obtain ⟨ha, hb2, hc⟩ := hd
    have hne : ¬ a = 48 := fun e => hb (.inr (.inr ⟨by simp, by rw [e]; rfl⟩))
    have hne := ne48 hne
    have e : valD [a, b, c] = ((a.toNat - 48) * 10 + (b.toNat - 48)) * 10 + (c.toNat - 48) := by simp [valD]
    rw [e] at hv ⊢
    refine ⟨?_, ?_⟩
    · unfold d3; rw [if_neg (by omega), if_neg (by omega), u8_back (c := a) (by omega), u8_back (c := b) (by omega), u8_back (c := c) (by omega)]
    · unfold Lib.parseUintB
      rw [if_neg (by simp)]
      simp only [Lib.parseUintM]
      rw [if_pos ha, if_neg (by omega), if_neg (by omega), if_pos hb2, if_neg (by omega), if_neg (by omega), if_pos hc, if_neg (by omega), if_neg (by omega)]
      congr 1
  | [a, b, c, d], hb, hd, hv =>
    simp only [List.all_cons, List.all_nil, Bool.and_true, Bool.and_eq_true, isD_iff] at hd
    obtain ⟨ha, hb2, hc, hd⟩ := hd
    have hne : ¬ a = 48 := fun e => hb (.inr (.inr ⟨by simp, by rw [e]; rfl⟩))
    have hne := ne48 hne
    have e : valD [a, b, c, d] = (((a.toNat - 48) * 10 + (b.toNat - 48)) * 10 + (c.toNat - 48)) * 10 + (d.toNat - 48) := by simp [valD]
    omega
  | a :: b :: c :: d :: x :: r, hb, _, _ => exact absurd (.inr (.inl (by simp))) hb

/-- THE TIE: a word is the program's number just where it is the model's, and the same one. -/
theorem rb_l3N (l : List UInt8) : rb l = if 0 ≤ l3N l ∧ l3N l ≤ 255 then some (l3N l).toNat else none := by
  by_cases h : 0 ≤ l3N l ∧ l3N l ≤ 255
  · obtain ⟨e1, e2⟩ := back h.1 h.2
    rw [if_pos h]
    unfold rb
    rw [e2]
    simp only
    rw [dec_d3 _ (by omega), if_pos e1.symm]
  · rw [if_neg h]
    cases hr : rb l with
    | none => rfl
    | some v =>
      obtain ⟨hv, e⟩ := rb_some hr
      have := d3_l3N v (by omega)
      rw [← e] at this
      omega

end Go.Proofs.YtbceacnadkhdoaaGreatDoor
