/- Texts cut at commas: the library's pieces, and the model's. -/
import Derived.Lib.SplitLaws
import Derived.Lib.IndexBytes
namespace Go.Proofs.YtbceacnadkhdoaaGreatDoor
open Go

/-- A text cut at its commas. -/
def cutL : List UInt8 → List (List UInt8)
  | [] => [[]]
  | c :: r => if c = 44 then [] :: cutL r else match cutL r with
    | [] => [[c]]
    | h :: t => (c :: h) :: t

theorem cutL_ne (l : List UInt8) : cutL l ≠ [] := by
  cases l with
  | nil => simp [cutL]
  | cons c r =>
    unfold cutL
    split
    · simp
    · split <;> simp
theorem cutL_none {l : List UInt8} (h : ∀ c ∈ l, c ≠ 44) : cutL l = [l] := by
  induction l with
  | nil => rfl
  | cons c r ih =>
    unfold cutL
    rw [if_neg (h c (by simp)), ih (fun x hx => h x (by simp [hx]))]
theorem cutL_cons {c : UInt8} {r h : List UInt8} {t : List (List UInt8)} (hc : c ≠ 44) (e : cutL r = h :: t) : cutL (c :: r) = (c :: h) :: t := by
  rw [cutL, if_neg hc, e]
theorem cutL_at {a r : List UInt8} (h : ∀ c ∈ a, c ≠ 44) : cutL (a ++ 44 :: r) = a :: cutL r := by
  induction a with
  | nil => simp [cutL]
  | cons c a ih =>
    rw [List.cons_append, cutL_cons (h c (by simp)) (ih (fun x hx => h x (by simp [hx])))]

/-- The library cuts so. -/
theorem splitK_cut : ∀ s : List UInt8, Lib.splitK [44] 0 (Lib.count s [44]) s = cutL s
  | [] => by
    rw [Lib.count_miss (by simp [Lib.index])]
    rfl
  | b :: l => by
    have ih := splitK_cut l
    by_cases hb : b = 44
    · subst hb
      have hix : Lib.index (44 :: l) [44] = 0 := by rw [Lib.index]; simp [List.isPrefixOf]
      rw [Lib.count_cons_eq, Nat.add_comm, Lib.splitK, if_neg (by rw [hix]; decide), hix]
      simp [cutL, ih]
    · rw [Lib.count_cons_ne b 44 l hb]
      have hp : ([44] : List UInt8).isPrefixOf (b :: l) = false := by simp [List.isPrefixOf, Ne.symm hb]
      have hix : Lib.index (b :: l) [44] = if Lib.index l [44] == -1 then -1 else Lib.index l [44] + 1 := by rw [Lib.index, hp]; simp
      cases hk : Lib.count l [44] with
      | zero =>
        rw [hk] at ih
        rw [Lib.splitK] at ih ⊢
        rw [cutL_cons hb ih.symm]
      | succ k =>
        have hm : ¬ Lib.index l [44] = -1 := fun e => by rw [Lib.count_miss e] at hk; cases hk
        have hge := Lib.index_ge l [44]
        obtain ⟨j, hj⟩ : ∃ j : Nat, Lib.index l [44] = j := ⟨(Lib.index l [44]).toNat, by omega⟩
        rw [hk, Lib.splitK, if_neg (by simpa using hm), hj] at ih
        have hix' : Lib.index (b :: l) [44] = ((j + 1 : Nat) : Int) := by rw [hix, if_neg (by simpa using hm), hj]; omega
        rw [Lib.splitK, if_neg (by rw [hix']; simp; omega), hix']
        rw [cutL_cons hb ih.symm]
        simp
theorem count_cut : ∀ s : List UInt8, (cutL s).length = Lib.count s [44] + 1
  | [] => by rw [Lib.count_miss (by simp [Lib.index])]; rfl
  | b :: l => by
    have ih := count_cut l
    by_cases hb : b = 44
    · subst hb
      rw [Lib.count_cons_eq, cutL, if_pos rfl, List.length_cons, ih]; omega
    · rw [Lib.count_cons_ne b 44 l hb]
      cases e : cutL l with
      | nil => exact absurd e (cutL_ne l)
      | cons h t => rw [cutL_cons hb e]; rw [e] at ih; simpa using ih
theorem cut_len (s : List UInt8) : (cutL s).length ≤ s.length + 1 := by
  rw [count_cut, Lib.count_one]
  have := List.count_le_length (a := (44 : UInt8)) (l := s)
  omega
theorem cut_short (s : List UInt8) : ∀ x ∈ cutL s, x.length ≤ s.length := by
  induction s with
  | nil => intro x hx; simp [cutL] at hx; subst hx; simp
  | cons c r ih =>
    intro x hx
    by_cases hc : c = 44
    · rw [cutL, if_pos hc] at hx
      rcases List.mem_cons.1 hx with rfl | hx
      · simp
      · have := ih x hx; simp; omega
    · cases e : cutL r with
      | nil => exact absurd e (cutL_ne r)
      | cons h t =>
        rw [cutL_cons hc e] at hx
        rw [e] at ih
        rcases List.mem_cons.1 hx with rfl | hx
        · have := ih h (by simp); simp; omega
        · have := ih x (by simp [hx]); simp; omega

end Go.Proofs.YtbceacnadkhdoaaGreatDoor
