/- Bodies marked: the mathematics, and one body. -/
import Derived.Test.YtngmiimendlleaaV8
namespace Go.Proofs.Ytngmiimendlleaa
open Go.RowKit
set_option linter.unusedVariables false

/-- How many bytes bodies have. -/
def tot : List (List Int) → Nat
  | [] => 0
  | b :: bs => b.length + tot bs
theorem tot_app (A B : List (List Int)) : tot (A ++ B) = tot A + tot B := by
  induction A with
  | nil => simp [tot]
  | cons b A ih => simp [tot, ih]; omega
theorem tot_one (b : List Int) : tot [b] = b.length := by simp [tot]
theorem tot_mem {b : List Int} {A : List (List Int)} (h : b ∈ A) : b.length ≤ tot A := by
  induction A with
  | nil => simp at h
  | cons c A ih =>
    rcases List.mem_cons.1 h with rfl | h
    · simp [tot]
    · have := ih h; simp [tot]; omega
def totB (bs : List Bd) : Nat := tot (bs.map Bd.L)
theorem totB_app (A B : List Bd) : totB (A ++ B) = totB A + totB B := by simp [totB, tot_app]
theorem totB_one (b : Bd) : totB [b] = b.L.length := by simp [totB, tot_one]
theorem totB_mem {b : Bd} {bs : List Bd} (h : b ∈ bs) : b.L.length ≤ totB bs := tot_mem (List.mem_map_of_mem h)

/-- A body marked from k on; bodies marked. -/
def mark1 (k : Int) (b : Bd) : Bd := ⟨b.ao, b.cap, b.g, rowOf (mkB k) b.L.length⟩
theorem mark1_len (k : Int) (b : Bd) : (mark1 k b).L.length = b.L.length := rowOf_len _ _
theorem mark1_val (k : Int) (b : Bd) : (mark1 k b).val = b.val := by simp [Bd.val, mark1, rowOf_len]
def mkAll : Int → List Bd → List Bd
  | _, [] => []
  | k, b :: bs => mark1 k b :: mkAll (k + b.L.length) bs
theorem mkAll_app (k : Int) (A B : List Bd) : mkAll k (A ++ B) = mkAll k A ++ mkAll (k + totB A) B := by
  induction A generalizing k with
  | nil => simp [mkAll, totB, tot]
  | cons b A ih => simp only [List.cons_append, mkAll, ih]; simp [totB, tot]; congr 1; omega
theorem mkAll_one (k : Int) (b : Bd) : mkAll k [b] = [mark1 k b] := rfl

theorem Bd.row {w : World} {b : Bd} (h : b.on w) : ∃ lo hi, Row .u8 w lo hi b.ao b.L ∧ hi ≤ w.heap.size := by
  by_cases e : b.L = []
  · exact ⟨0, 0, .inl e, Nat.zero_le _⟩
  · exact ⟨_, _, h.1.row, Bd.lt h e⟩

theorem Bods.mark {w w' : World} {lo hi : Nat} {X Y : List Bd} {b : Bd} {L' : List Int} (h : Bods w lo hi (X ++ b :: Y)) (hn : b.L ≠ []) (f : Far b.g (b.g + 1) w w') (hw : Wrt .u8 w' b.g (b.g + 1) b.ao L') : Bods w' lo hi (X ++ ⟨b.ao, b.cap, b.g, L'⟩ :: Y) := by
  have hb := h.each b (by simp)
  have hap := h.apart
  rw [List.pairwise_append, List.pairwise_cons] at hap
  obtain ⟨a1, ⟨a2, a3⟩, a4⟩ := hap
  have other : ∀ c, c ∈ X ++ b :: Y → (c.L ≠ [] → c.g ≠ b.g) → c.on w' := fun c m hc =>
    Bd.on_far (h.each c m) f (fun e => by have := hc e; have := Bd.lt (h.each c m) e; omega)
  have hX : ∀ c ∈ X, c.L ≠ [] → c.g ≠ b.g := fun c m e => a4 c m b (by simp) e hn
  have hY : ∀ c ∈ Y, c.L ≠ [] → c.g ≠ b.g := fun c m e => (a2 c m hn e).symm
  refine ⟨fun c m => ?_, fun c m e => ?_, ?_⟩
  · rcases List.mem_append.1 m with m | m
    · exact other c (by simp [m]) (hX c m)
    · rcases List.mem_cons.1 m with rfl | m
      · exact ⟨hw, fun _ => hb.2 hn⟩
      · exact other c (by simp [m]) (hY c m)
  · rcases List.mem_append.1 m with m | m
    · exact h.inn c (by simp [m]) e
    · rcases List.mem_cons.1 m with rfl | m
      · exact h.inn b (by simp) hn
      · exact h.inn c (by simp [m]) e
  · rw [List.pairwise_append, List.pairwise_cons]
    refine ⟨a1, ⟨fun c m _ e => a2 c m hn e, a3⟩, fun c m d m' e1 e2 => ?_⟩
    rcases List.mem_cons.1 m' with rfl | m'
    · exact hX c m e1
    · exact a4 c m d (by simp [m']) e1 e2
theorem Spn.far1 {w w' : World} {lo hi : Nat} {so : Option Addr} {bs : List Bd} {b : Bd} (h : Spn w lo hi so bs) (hb : b.on w) (hn : b.L ≠ []) (f : Far b.g (b.g + 1) w w') (hs : hi ≤ w.heap.size) : Spn w' lo hi so bs := by
  rcases h with h | ⟨gs, ha, h1, h2, hc⟩
  · exact .inl h
  · by_cases e : bs = []
    · exact .inl e
    · have hne : gs ≠ b.g := fun e' => by
        have h0 := hc 0 (List.length_pos_iff.2 e)
        obtain ⟨x, hx⟩ := b.cell0 hb hn
        rw [e', hx] at h0
        simp [Bd.val] at h0
      exact .inr ⟨gs, ha, h1, h2, fun i hi => (f.cell gs _ (by omega) (by omega)).trans (hc i hi)⟩

theorem mark_one (lo hi : Nat) (X Y : List Bd) (b : Bd) (k : Int) (w : World) (h : Bods w lo hi (X ++ b :: Y)) (hh : hi ≤ w.heap.size) (hl : b.L.length ≤ 1048576) (k0 : 0 ≤ k) (k1 : k ≤ 4194304) :
    Calls Try.prog 36 #[.slice b.ao b.L.length b.cap, .int .i64 k] w fun e w' => e = .returned (.int .i64 (k + b.L.length)) ∧ Far lo hi w w' ∧ Bods w' lo hi (X ++ mark1 k b :: Y) ∧ ∀ so bs, Spn w lo hi so bs → Spn w' lo hi so bs := by
  have hb := h.each b (by simp)
  by_cases e : b.L = []
  · refine (markB_any 0 0 b.ao b.cap k b.L w (.inl e) (Nat.zero_le _) hl k0 k1).mono fun en w' ⟨he, f, _⟩ => ⟨he, ⟨f.os, f.tape, f.output, f.size, fun q hq _ => f.block q hq (by omega)⟩, ?_, fun so bs s => s.far f (.inr (Nat.zero_le _)) hh⟩
    have hm : mark1 k b = b := by
      cases b with
      | mk ao cap g L =>
        simp only at e
        subst e
        rfl
    rw [hm]
    exact h.far f (.inr (Nat.zero_le _))
  · have hi1 := h.inn b (by simp) e
    refine (markB_any b.g (b.g + 1) b.ao b.cap k b.L w hb.1 (Bd.lt hb e) hl k0 k1).mono fun en w' ⟨he, f, wr⟩ => ⟨he, f.wide hi1.1 hi1.2, h.mark e f wr, fun so bs s => s.far1 hb e f hh⟩

theorem held_one_body (k : Int) (b : Bd) (w : World) (h : (mark1 k b).on w) (hl : b.L.length ≤ 1048576) (k0 : 0 ≤ k) (k1 : k ≤ 4194304) :
    Calls Try.prog 37 #[.slice b.ao b.L.length b.cap, .int .i64 k] w fun e w' => e = .returned (.int .i64 (k + b.L.length)) ∧ w' = w := by
  obtain ⟨lo, hi, hR, _⟩ := Bd.row h
  exact heldB_any lo hi b.ao b.cap b.L.length k w hR hl k0 k1

end Go.Proofs.Ytngmiimendlleaa
