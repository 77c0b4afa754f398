/- Texts of requests: numbers in digits with commas between. -/
import Derived.Test.YtbceacnadkhdoaaGreatDoorV20
import Derived.Test.YtbceacnadkhdoaaGreatDoorV21
import Derived.Lib.Join
namespace Go.Proofs.YtbceacnadkhdoaaGreatDoor
open Go

/-- The words of a body. -/
def wds (L : List Int) : List (List UInt8) := L.map fun n => d3 n.toNat
/-- Its text. -/
def txt (L : List Int) : List UInt8 := Lib.join (wds L) [44]

theorem d3_digits : ∀ u, u < 256 → ∀ c ∈ d3 u, c ≠ 44 := by decide +kernel
theorem d3_pos (u : Nat) : 1 ≤ (d3 u).length := by unfold d3; split <;> (try split) <;> simp
theorem txt_cons (k : Int) (L : List Int) : txt (k :: L) = d3 k.toNat ++ Lib.joinTail [44] (wds L) := by
  unfold txt wds
  rw [List.map_cons, Lib.join_cons]
theorem tail_snoc (L : List Int) (n : Int) : Lib.joinTail [44] (wds (L ++ [n])) = Lib.joinTail [44] (wds L) ++ [44] ++ d3 n.toNat := by
  simp [wds, Lib.joinTail, List.append_assoc]
theorem txt_snoc (k : Int) (L : List Int) (n : Int) : txt (k :: (L ++ [n])) = txt (k :: L) ++ [44] ++ d3 n.toNat := by
  rw [txt_cons, txt_cons, tail_snoc]; simp [List.append_assoc]
theorem tail_len (L : List Int) : (Lib.joinTail [44] (wds L)).length ≤ 4 * L.length := by
  induction L with
  | nil => simp [wds, Lib.joinTail]
  | cons n L ih =>
    have := d3_len n.toNat
    simp only [wds, Lib.joinTail, List.map_cons, List.flatten_cons, List.length_append, List.length_cons, List.length_nil] at ih ⊢
    omega
theorem txt_len (L : List Int) : (txt L).length ≤ 4 * L.length := by
  cases L with
  | nil => simp [txt, wds, Lib.join_nil]
  | cons k L =>
    rw [txt_cons, List.length_append, List.length_cons]
    have := d3_len k.toNat
    have := tail_len L
    omega

theorem cut_join {ws : List (List UInt8)} (hne : ws ≠ []) (h : ∀ x ∈ ws, ∀ c ∈ x, c ≠ 44) : cutL (Lib.join ws [44]) = ws := by
  induction ws with
  | nil => exact absurd rfl hne
  | cons x r ih =>
    cases r with
    | nil => rw [Lib.join_one]; exact cutL_none (h x (by simp))
    | cons y r =>
      have e : Lib.join (x :: y :: r) [44] = x ++ 44 :: Lib.join (y :: r) [44] := by
        rw [Lib.join_cons, Lib.join_cons]
        simp [Lib.joinTail]
      rw [e, cutL_at (h x (by simp)), ih (by simp) (fun z hz => h z (by simp [List.mem_cons.1 hz]))]
theorem join_cut : ∀ s : List UInt8, Lib.join (cutL s) [44] = s
  | [] => by simp [cutL, Lib.join_one]
  | c :: r => by
    have ih := join_cut r
    by_cases hc : c = 44
    · subst hc
      rw [cutL, if_pos rfl]
      cases e : cutL r with
      | nil => exact absurd e (cutL_ne r)
      | cons h t =>
        rw [e] at ih
        rw [Lib.join_cons] at ih ⊢
        rw [← ih]
        simp [Lib.joinTail]
    · cases e : cutL r with
      | nil => exact absurd e (cutL_ne r)
      | cons h t =>
        rw [e] at ih
        rw [cutL_cons hc e]
        rw [Lib.join_cons] at ih ⊢
        rw [← ih]
        simp
theorem cut_txt {L : List Int} (hne : L ≠ []) (h : ∀ n ∈ L, 0 ≤ n ∧ n ≤ 255) : cutL (txt L) = wds L := by
  refine cut_join (by simpa [wds] using hne) fun x hx c hc => ?_
  obtain ⟨n, hn, rfl⟩ := List.mem_map.1 hx
  exact d3_digits n.toNat (by have := h n hn; omega) c hc

/-- What a text's words are as a body; none, where one is no number. -/
def psW : List (List UInt8) → Option (List Int)
  | [] => some []
  | x :: r => match rb x, psW r with
    | some v, some L => some ((v : Int) :: L)
    | _, _ => none
theorem rb_d3 (v : Nat) (h : v < 256) : rb (d3 v) = some v := by
  rw [rb_l3N, d3_l3N v h, if_pos (by omega)]; simp
theorem psW_wds {L : List Int} (h : ∀ n ∈ L, 0 ≤ n ∧ n ≤ 255) : psW (wds L) = some L := by
  induction L with
  | nil => rfl
  | cons n L ih =>
    have hn := h n (by simp)
    have := ih (fun x hx => h x (by simp [hx]))
    simp only [wds, List.map_cons, psW] at this ⊢
    rw [rb_d3 _ (by omega), this]
    simp only
    rw [Int.toNat_of_nonneg hn.1]
theorem psW_back : ∀ {ws : List (List UInt8)} {L : List Int}, psW ws = some L → wds L = ws ∧ ∀ n ∈ L, 0 ≤ n ∧ n ≤ 255
  | [], L, h => by simp only [psW, Option.some.injEq] at h; subst h; exact ⟨rfl, fun n hn => by cases hn⟩
  | x :: r, L, h => by
    simp only [psW] at h
    cases e1 : rb x with
    | none => rw [e1] at h; simp at h
    | some v =>
      cases e2 : psW r with
      | none => rw [e1, e2] at h; simp at h
      | some M =>
        rw [e1, e2] at h
        simp only [Option.some.injEq] at h
        subst h
        obtain ⟨hv, hx⟩ := rb_some e1
        obtain ⟨hm, hb⟩ := psW_back e2
        refine ⟨?_, fun n hn => ?_⟩
        · simp only [wds, List.map_cons, Int.toNat_natCast]
          rw [← hx]
          exact congrArg _ hm
        · rcases List.mem_cons.1 hn with rfl | hn
          · omega
          · exact hb n hn
theorem psW_len : ∀ {ws : List (List UInt8)} {L : List Int}, psW ws = some L → L.length = ws.length := fun {ws L} h => by
  have := (psW_back h).1
  rw [← this]; simp [wds]
/-- .. as far as the first k words go. -/
theorem psW_snoc (ws : List (List UInt8)) (x : List UInt8) : psW (ws ++ [x]) = match psW ws, rb x with
    | some L, some v => some (L ++ [(v : Int)])
    | _, _ => none := by
  induction ws with
  | nil => simp only [List.nil_append, psW]; cases rb x <;> rfl
  | cons y r ih =>
    simp only [List.cons_append, psW, ih]
    cases rb y <;> cases psW r <;> cases rb x <;> simp
theorem psW_stop (ws r : List (List UInt8)) (h : psW ws = none) : psW (ws ++ r) = none := by
  induction ws with
  | nil => simp [psW] at h
  | cons y t ih =>
    simp only [List.cons_append, psW] at h ⊢
    cases e : rb y with
    | none => rfl
    | some v =>
      rw [e] at h
      cases e2 : psW t with
      | none => rw [ih e2]
      | some M => rw [e2] at h; simp at h

/-- The body of a text. -/
def psT (s : List UInt8) : Option (List Int) := psW (cutL s)
theorem psT_txt {L : List Int} (hne : L ≠ []) (h : ∀ n ∈ L, 0 ≤ n ∧ n ≤ 255) : psT (txt L) = some L := by
  unfold psT; rw [cut_txt hne h, psW_wds h]
theorem txt_psT {s : List UInt8} {L : List Int} (h : psT s = some L) : txt L = s ∧ ∀ n ∈ L, 0 ≤ n ∧ n ≤ 255 := by
  obtain ⟨h1, h2⟩ := psW_back h
  refine ⟨?_, h2⟩
  unfold txt; rw [h1]; exact join_cut s

end Go.Proofs.YtbceacnadkhdoaaGreatDoor
