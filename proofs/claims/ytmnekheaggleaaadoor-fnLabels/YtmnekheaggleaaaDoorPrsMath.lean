/- Reading labels from texts, on lists of bytes alone: what the program reads is what the model finds. -/
import Derived.Test.YtmnekheaggleaaaDoorTxt1
namespace Go.Proofs.YtmnekheaggleaaaDoor

/-- One letter: is it the next one, what is left behind it? -/
def one (k : Nat) : List UInt8 → Option (List UInt8)
  | a :: c :: r => if a.toNat = 43 ∧ c.toNat = 97 + k then some r else none
  | _ => none
def rsL : Nat → List UInt8 → List UInt8 × Int
  | 0, l => (l, 0)
  | k + 1, l => match one k (rsL k l).1 with
    | some r => (r, (rsL k l).2 + 2 ^ k)
    | none => rsL k l
theorem rs_lt (k : Nat) (l : List UInt8) : 0 ≤ (rsL k l).2 ∧ (rsL k l).2 < 2 ^ k := by
  induction k with
  | zero => simp [rsL]
  | succ k ih =>
    have h2 : (2 : Int) ^ (k + 1) = 2 ^ k + 2 ^ k := by rw [Int.pow_succ]; omega
    simp only [rsL]
    split
    · simp only; omega
    · omega
theorem rs_size (k : Nat) (l : List UInt8) : (rsL k l).1.length ≤ l.length := by
  induction k with
  | zero => simp [rsL]
  | succ k ih =>
    simp only [rsL]
    split
    · rename_i r hr
      have : r.length ≤ (rsL k l).1.length := by
        revert hr
        generalize (rsL k l).1 = t
        intro hr
        match t, hr with
        | a :: c :: r', hr =>
          simp only [one] at hr
          split at hr
          · cases hr; simp; omega
          · cases hr
      show r.length ≤ l.length
      omega
    · exact ih

/-- What the program answers: code, level, parts. -/
def ipL : List UInt8 → Int × Int × Int
  | a :: d :: r => if a.toNat = 76 ∧ 48 ≤ d.toNat ∧ d.toNat ≤ 51 ∧ (rsL 4 r).1 = [] then (0, (d.toNat : Int) - 48, (rsL 4 r).2) else (5, 0, 0)
  | _ => (5, 0, 0)

def txB (c : Nat) : List UInt8 := (tx ((c : Int) / 16) ((c : Int) % 16) 4).map fun n => UInt8.ofNat n.toNat
/-- What the model answers. -/
def spL (L : List UInt8) : Int × Int × Int := match (List.range 64).find? fun c => txB c == L with
  | some c => (0, (c : Int) / 16, (c : Int) % 16)
  | none => (5, 0, 0)

theorem one_some {k : Nat} (hk : k < 4) {t r : List UInt8} (h : one k t = some r) : t = 43 :: UInt8.ofNat (97 + k) :: r := by
  match t, h with
  | a :: c :: r', h =>
    simp only [one] at h
    split at h
    · rename_i hc
      cases h
      have ha : a = 43 := by apply UInt8.toNat_inj.1; rw [hc.1]; rfl
      have hcc : c = UInt8.ofNat (97 + k) := by apply UInt8.toNat_inj.1; rw [hc.2, UInt8.toNat_ofNat']; omega
      rw [ha, hcc]
    · cases h

theorem back_dec : ∀ c : Fin 64, ipL (txB c.val) = (0, (c.val : Int) / 16, (c.val : Int) % 16) := by decide +kernel

theorem ip_forth {L : List UInt8} (h : ipL L ≠ (5, 0, 0)) : ∃ c, c < 64 ∧ txB c = L := by
  match L with
  | [] => simp [ipL] at h
  | [_] => simp [ipL] at h
  | a :: d :: r =>
    simp only [ipL] at h
    split at h
    · rename_i hc
      obtain ⟨ha, hd0, hd1, hr⟩ := hc
      have ea : a = 76 := by apply UInt8.toNat_inj.1; rw [ha]; rfl
      obtain ⟨e, he, hde⟩ : ∃ e, e < 4 ∧ d = UInt8.ofNat (48 + e) := ⟨d.toNat - 48, by omega, by apply UInt8.toNat_inj.1; rw [UInt8.toNat_ofNat']; omega⟩
      have hrr : ∃ p, p < 16 ∧ r = ((txB p).drop 2) := by
        clear h ha ea hd0 hd1 hde he
        simp only [rsL] at hr
        cases h0 : one 0 r with
        | none =>
          simp only [h0] at hr
          cases h1 : one 1 r with
          | none =>
            simp only [h1] at hr
            cases h2 : one 2 r with
            | none =>
              simp only [h2] at hr
              cases h3 : one 3 r with
              | none => simp only [h3] at hr; exact ⟨0, by omega, by rw [hr]; rfl⟩
              | some t3 => simp only [h3] at hr; exact ⟨8, by omega, by rw [one_some (by omega) h3, hr]; rfl⟩
            | some t2 =>
              simp only [h2] at hr
              cases h3 : one 3 t2 with
              | none => simp only [h3] at hr; exact ⟨4, by omega, by rw [one_some (by omega) h2, hr]; rfl⟩
              | some t3 => simp only [h3] at hr; exact ⟨12, by omega, by rw [one_some (by omega) h2, one_some (by omega) h3, hr]; rfl⟩
          | some t1 =>
            simp only [h1] at hr
            cases h2 : one 2 t1 with
            | none =>
              simp only [h2] at hr
              cases h3 : one 3 t1 with
              | none => simp only [h3] at hr; exact ⟨2, by omega, by rw [one_some (by omega) h1, hr]; rfl⟩
              | some t3 => simp only [h3] at hr; exact ⟨10, by omega, by rw [one_some (by omega) h1, one_some (by omega) h3, hr]; rfl⟩
            | some t2 =>
              simp only [h2] at hr
              cases h3 : one 3 t2 with
              | none => simp only [h3] at hr; exact ⟨6, by omega, by rw [one_some (by omega) h1, one_some (by omega) h2, hr]; rfl⟩
              | some t3 => simp only [h3] at hr; exact ⟨14, by omega, by rw [one_some (by omega) h1, one_some (by omega) h2, one_some (by omega) h3, hr]; rfl⟩
        | some t0 =>
          simp only [h0] at hr
          cases h1 : one 1 t0 with
          | none =>
            simp only [h1] at hr
            cases h2 : one 2 t0 with
            | none =>
              simp only [h2] at hr
              cases h3 : one 3 t0 with
              | none => simp only [h3] at hr; exact ⟨1, by omega, by rw [one_some (by omega) h0, hr]; rfl⟩
              | some t3 => simp only [h3] at hr; exact ⟨9, by omega, by rw [one_some (by omega) h0, one_some (by omega) h3, hr]; rfl⟩
            | some t2 =>
              simp only [h2] at hr
              cases h3 : one 3 t2 with
              | none => simp only [h3] at hr; exact ⟨5, by omega, by rw [one_some (by omega) h0, one_some (by omega) h2, hr]; rfl⟩
              | some t3 => simp only [h3] at hr; exact ⟨13, by omega, by rw [one_some (by omega) h0, one_some (by omega) h2, one_some (by omega) h3, hr]; rfl⟩
          | some t1 =>
            simp only [h1] at hr
            cases h2 : one 2 t1 with
            | none =>
              simp only [h2] at hr
              cases h3 : one 3 t1 with
              | none => simp only [h3] at hr; exact ⟨3, by omega, by rw [one_some (by omega) h0, one_some (by omega) h1, hr]; rfl⟩
              | some t3 => simp only [h3] at hr; exact ⟨11, by omega, by rw [one_some (by omega) h0, one_some (by omega) h1, one_some (by omega) h3, hr]; rfl⟩
            | some t2 =>
              simp only [h2] at hr
              cases h3 : one 3 t2 with
              | none => simp only [h3] at hr; exact ⟨7, by omega, by rw [one_some (by omega) h0, one_some (by omega) h1, one_some (by omega) h2, hr]; rfl⟩
              | some t3 => simp only [h3] at hr; exact ⟨15, by omega, by rw [one_some (by omega) h0, one_some (by omega) h1, one_some (by omega) h2, one_some (by omega) h3, hr]; rfl⟩
      obtain ⟨p, hp, hrp⟩ := hrr
      have all : ∀ (e : Fin 4) (p : Fin 16), txB (16 * e.val + p.val) = 76 :: UInt8.ofNat (48 + e.val) :: ((txB p.val).drop 2) := by decide +kernel
      refine ⟨16 * e + p, by omega, ?_⟩
      have := all ⟨e, he⟩ ⟨p, hp⟩
      rw [ea, hde, hrp]
      exact this
    · exact absurd rfl h

theorem ip_sp (L : List UInt8) : ipL L = spL L := by
  unfold spL
  split
  · rename_i c hc
    have h1 := List.find?_some hc
    have h2 : c < 64 := by simpa using List.mem_of_find?_eq_some hc
    have h3 : txB c = L := by simpa using h1
    rw [← h3]
    exact back_dec ⟨c, h2⟩
  · rename_i hn
    refine Decidable.byContradiction fun h => ?_
    obtain ⟨c, hc, he⟩ := ip_forth h
    have := List.find?_eq_none.1 hn c (by simpa using hc)
    simp [he] at this

end Go.Proofs.YtmnekheaggleaaaDoor
