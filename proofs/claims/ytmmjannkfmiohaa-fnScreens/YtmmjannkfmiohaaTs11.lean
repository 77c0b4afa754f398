/- Regions whose order is open: what only reads, then so many that make memory or reckon, one behind the other, then the rest. No conditions on the program. Stacks as the program works on them: panes of its own, and back. Numbers of things: which are ids, of which slot; faults of a list of them; the lowest free one. Mathematics alone. SlotOf: the program's, the model's, and the law's walk. -/
import Derived.Test.YtmmjannkfmiohaaTs1
import Derived.Test.YtmmjannkfmiohaaTs10
import Derived.Test.YtmmjannkfmiohaaTs2
namespace Go.Proofs.Ytmmjannkfmiohaa
open Go.RowKit

section
variable {P : Program} {ops : Array Oper} {md : Region.Mode}

def madesB (md : Region.Mode) (ops : Array Oper) (n m : Nat) : Bool :=
  Region.noSelect ops && waitsB md ops (n + m) && decide (n + m ≤ ops.size) && Region.lexHead md ops (ops.size - n) n 0 (Array.replicate ops.size false)
def wpMades (P : Program) (ops : Array Oper) (E : World → Act → Prop) : List Oper → World → Act → Prop
  | [], W, a => E W a
  | o :: rest, W, a => Region.wanted o (yielded ops a.tmps) = true ∧ ∀ w1, Kept W w1 → madeAt P o a w1 fun w2 v => wpMades P ops E rest w2 (a.put o.dst v)
theorem mades_step {E : World → Act → Prop} {W : World} {a : Act} {o : Oper} {rest : List Oper} (hw : Region.wanted o (yielded ops a.tmps) = true)
    (h : ∀ w1, Kept W w1 → madeAt P o a w1 fun w2 v => ∀ K : Act → Prop, (∀ a', wpMades P ops E rest w2 a' → K a') → K (a.put o.dst v)) : wpMades P ops E (o :: rest) W a :=
  ⟨hw, fun w1 k1 => madeUpon_mono (fun _ _ _ hk => hk _ fun _ h => h) (h w1 k1)⟩
theorem mades_nil {E : World → Act → Prop} {W : World} {a : Act} (h : E W a) : wpMades P ops E [] W a := h
theorem made_value {o : Oper} {a : Act} {w1 : World} {K : World → Value → Prop} {v : Value} (h : (execOp a.eval o).run P w1 = .ok (.value v) w1) (hk : K w1 v) : madeAt P o a w1 K := by
  unfold madeAt
  rw [h]
  exact ⟨Below.refl _ _, hk⟩
theorem made_calls {o : Oper} {a : Act} {w : World} {K : World → Value → Prop} {f : FuncId} {args : Array Value} (h : (execOp a.eval o).run P w = .ok (.enter f args) w)
    (hc : Calls P f args w fun e w'' => ∃ v, e = .returned v ∧ Below w.heap.size w w'' ∧ K w'' v) : madeAt P o a w K := by
  unfold madeAt
  rw [h]
  exact ⟨rfl, hc⟩

theorem opens_mades {N : Nat} {E : World → Act → Prop} {Z' : World → Array Bool → Act → Prop} (hZ : ∀ W s a, Region.seqB md ops (ops.size - N) N s = true → E W a → Z' W s a) (hN : N ≤ ops.size) (mid : List Oper) :
    ∀ (k : Nat) (W : World) (s : Array Bool) (a : Act), (∀ j, j < mid.length → mid[j]? = ops[k + j]?) → k + mid.length = N → Region.seqB md ops (ops.size - k) k s = true → wpMades P ops E mid W a → opens P md ops N Z' mid.length W s a := by
  induction mid with
  | nil =>
    intro k W s a _ hk hs h
    have hkn : k = N := by simpa using hk
    subst hkn
    exact hZ W s a hs h
  | cons o mid ih =>
    intro k W s a hl hk hs h
    simp only [List.length_cons] at hk
    have e3 : ops.size - k = (ops.size - (k + 1)) + 1 := by omega
    simp only [e3, Region.seqB, Bool.and_eq_true, decide_eq_true_eq] at hs
    have h0 : ops[k]? = some o := by simpa using (hl 0 (by simp)).symm
    refine ⟨by rw [hs.1]; simp, fun i hi => ?_⟩
    rw [hs.1] at hi
    obtain rfl : i = k := by simpa using hi
    refine ⟨by omega, fun o' ho' => ?_⟩
    obtain rfl : o' = o := Option.some.inj (ho'.symm.trans h0)
    refine .inr ⟨h.1, fun w1 k1 => madeUpon_mono (fun w2 v _ hk' => ?_) (h.2 w1 k1)⟩
    refine ih (i + 1) w2 _ _ (fun j hj => ?_) (by omega) hs.2 hk'
    have h1 := hl (j + 1) (by simp; omega)
    have e2 : i + (j + 1) = i + 1 + j := by omega
    rw [e2] at h1
    simpa using h1

theorem wp_region_mades {id : Nat} {Q : Exit → Act → World → Prop} {a : Act} {w : World} {l : List Oper} (n m : Nat) (hm : P.follows .mixedOrders = true) (hB : madesB .any l.toArray n m = true)
    (h : wpGrow P l.toArray w (fun a' => wpMades P l.toArray (fun W a'' => ∀ w3, Kept W w3 → wpList P l.toArray Q (l.drop (n + m)) a'' w3) ((l.drop n).take m) w a') (l.take n) a) : (Code.region id l.toArray true).wp P Q a w := by
  simp only [madesB, Bool.and_eq_true, decide_eq_true_eq] at hB
  obtain ⟨⟨⟨hsel, hw⟩, hn⟩, hlex⟩ := hB
  have hn' : n + m ≤ l.length := by simpa using hn
  have e1 : (l.take n).length = n := by simp; omega
  have e2 : (l.drop (n + m)).length = l.toArray.size - (n + m) := by simp
  have e5 : ((l.drop n).take m).length = m := by simp; omega
  have inv : HeadInv .any l.toArray (n + m) (Array.replicate l.toArray.size false) :=
    ⟨by simp, fun j oj _ hl => (by rw [getD_replicate_false] at hl; cases hl), fun t _ ht => getD_in (by simpa using ht) (getD_replicate_false _ _)⟩
  let E : World → Act → Prop := fun W a => ∀ w3, Kept W w3 → wpList P l.toArray Q (l.drop (n + m)) a w3
  let Z : World → Array Bool → Act → Prop := fun W s a => Region.seqB .any l.toArray (l.toArray.size - (n + m)) (n + m) s = true ∧ E W a
  have H := opens_lex (P := P) (md := .any) (ops := l.toArray) (N := n + m) (n := n) (m := m) (Z := Z) (W := w) (G := fun k s => Region.seqB .any l.toArray (l.toArray.size - n) k s)
    (L := fun f k s => Region.lexHead .any l.toArray (l.toArray.size - n) f k s) hsel hw (by omega) (fun W s a hz => seqB_ready hz.1) (fun s a' _ hG hE => by
      have h0 := opens_mades (P := P) (md := .any) (ops := l.toArray) (N := n + m) (Z' := Z) (E := E) (fun W s a h1 h2 => ⟨h1, h2⟩) (by simpa using hn') ((l.drop n).take m) n w s a' (fun j hj => by
        rw [e5] at hj
        simp [hj]) (by rw [e5]) hG hE
      rwa [e5] at h0) (fun k s => rfl) (fun f k s => rfl) (l.take n) 0 _ a (fun j hj => by
      rw [e1] at hj
      simp [hj]) (by simpa using e1) inv (by rw [e1]; exact hlex) h
  refine wp_region_any hm ?_
  have A := opens_any (Q := Q) (g := l.toArray.size - (n + m)) (fun W s a' w' hk hz => by
    have B := wpAny_of_seq (md := .any) (Q' := Q) (l.drop (n + m)) (n + m) s a' w' (fun j => by simp [List.getElem?_drop]) (by rw [e2]; exact hz.1) (hz.2 w' hk)
    rwa [e2] at B) _ _ _ _ _ (show Kept w w.drew from (Below.refl _ _).drew) H
  have e4 : n + m + (l.toArray.size - (n + m)) = l.toArray.size := by omega
  rw [e1, e4] at A
  exact A
end
end Go.Proofs.Ytmmjannkfmiohaa

namespace Go.Proofs.Ytmmjannkfmiohaa
open Go.RowKit
set_option linter.unusedVariables false
attribute [local go_sem] growUpon growAt

end Go.Proofs.Ytmmjannkfmiohaa

namespace Go.Proofs.Ytmmjannkfmiohaa
set_option linter.unusedVariables false

/-- Is it an id? -/
def okId (x : Int) : Bool := decide (0 ≤ x ∧ x ≤ 255) && decide (1 ≤ x % 64 ∧ x % 64 ≤ 3)
/-- The code and the value of SlotOf. -/
def slC (x : Int) : Int := if okId x then 0 else 3
def slV (x : Int) : Int := if okId x then x / 64 else 0
theorem slC_yes {x : Int} (h : okId x = true) : slC x = 0 := by simp [slC, h]
theorem slC_no {x : Int} (h : okId x = false) : slC x = 3 := by simp [slC, h]
theorem slV_yes {x : Int} (h : okId x = true) : slV x = x / 64 := by simp [slV, h]
theorem slV_no {x : Int} (h : okId x = false) : slV x = 0 := by simp [slV, h]
theorem okId_iff {x : Int} : okId x = true ↔ (0 ≤ x ∧ x ≤ 255 ∧ 1 ≤ x % 64 ∧ x % 64 ≤ 3) := by simp [okId, and_assoc]
theorem okId_not {x : Int} : okId x = false ↔ ¬ (0 ≤ x ∧ x ≤ 255 ∧ 1 ≤ x % 64 ∧ x % 64 ≤ 3) := by
  rw [← okId_iff]; simp

/-- Is it there? -/
def hasI (L : List Int) (v : Int) : Bool := L.contains v
theorem hasI_eq (L : List Int) (v : Int) : hasI L v = L.contains v := rfl

/-- What is found at the ids one by one: pre is what went before. -/
def scan (pre : List Int) : List Int → Int
  | [] => 0
  | x :: r => if okId x then (if pre.contains x then 8 else scan (pre ++ [x]) r) else 3
/-- The fault of a list of ids. -/
def idsF (L : List Int) : Int := if 12 < L.length then 2 else scan [] L
/-- .. and of a slot behind it. -/
def askF (L : List Int) (s : Int) : Int := if idsF L = 0 then (if 0 ≤ s ∧ s ≤ 3 then 0 else 3) else idsF L

theorem idsF_many {L : List Int} (h : 12 < L.length) : idsF L = 2 := by simp [idsF, h]
theorem idsF_few {L : List Int} (h : L.length ≤ 12) : idsF L = scan [] L := by simp [idsF]; omega
theorem idsF_len {L : List Int} (h : idsF L = 0) : L.length ≤ 12 := by
  by_cases h1 : 12 < L.length
  · rw [idsF_many h1] at h; omega
  · omega

theorem scan_done (L : List Int) (k : Nat) (hk : L.length ≤ k) : scan (L.take k) (L.drop k) = 0 := by
  rw [List.drop_eq_nil_of_le hk]; rfl
theorem scan_no {L : List Int} {k : Nat} (hk : k < L.length) (h : okId L[k] = false) : scan (L.take k) (L.drop k) = 3 := by
  rw [List.drop_eq_getElem_cons hk]; simp [scan, h]
theorem scan_twice {L : List Int} {k : Nat} (hk : k < L.length) (h : okId L[k] = true) (h2 : (L.take k).contains L[k] = true) : scan (L.take k) (L.drop k) = 8 := by
  rw [List.drop_eq_getElem_cons hk]; unfold scan; rw [h, h2]; simp
theorem scan_on {L : List Int} {k : Nat} (hk : k < L.length) (h : okId L[k] = true) (h2 : (L.take k).contains L[k] = false) : scan (L.take k) (L.drop k) = scan (L.take (k + 1)) (L.drop (k + 1)) := by
  rw [List.drop_eq_getElem_cons hk]
  show (if okId L[k] then (if (L.take k).contains L[k] then 8 else scan (L.take k ++ [L[k]]) (L.drop (k + 1))) else 3) = _
  rw [h, h2]
  simp

/-- A list without a fault: all are ids, none stands twice. -/
theorem scan_ok : ∀ (r pre : List Int), scan pre r = 0 → (∀ x ∈ r, okId x = true) ∧ r.Nodup ∧ ∀ x ∈ r, x ∉ pre
  | [], pre, _ => by simp
  | x :: r, pre, h => by
    cases h1 : okId x
    · simp [scan, h1] at h
    · cases h2 : pre.contains x
      · have h' : scan (pre ++ [x]) r = 0 := by
          have : scan pre (x :: r) = scan (pre ++ [x]) r := by
            show (if okId x then (if pre.contains x then 8 else scan (pre ++ [x]) r) else 3) = _
            rw [h1, h2]; simp
          rw [← this]; exact h
        obtain ⟨a, b, c⟩ := scan_ok r (pre ++ [x]) h'
        refine ⟨?_, ?_, ?_⟩
        · intro y hy
          rcases List.mem_cons.1 hy with rfl | hy
          · exact h1
          · exact a y hy
        · refine List.nodup_cons.2 ⟨fun hx => ?_, b⟩
          exact c x hx (by simp)
        · intro y hy
          rcases List.mem_cons.1 hy with rfl | hy
          · simpa using h2
          · exact fun hp => c y hy (by simp [hp])
      · have : scan pre (x :: r) = 8 := by
          show (if okId x then (if pre.contains x then 8 else scan (pre ++ [x]) r) else 3) = _
          rw [h1, h2]; simp
        omega
theorem idsF_ok {L : List Int} (h : idsF L = 0) : (∀ x ∈ L, okId x = true) ∧ L.Nodup := by
  have := idsF_len h
  rw [idsF_few this] at h
  exact ⟨(scan_ok L [] h).1, (scan_ok L [] h).2.1⟩
theorem scan_mk : ∀ (r pre : List Int), (∀ x ∈ r, okId x = true) → r.Nodup → (∀ x ∈ r, x ∉ pre) → scan pre r = 0
  | [], pre, _, _, _ => rfl
  | x :: r, pre, a, b, c => by
    have h1 := a x (by simp)
    have h2 : pre.contains x = false := by simpa using c x (by simp)
    show (if okId x then (if pre.contains x then 8 else scan (pre ++ [x]) r) else 3) = _
    rw [h1, h2]
    simp only [if_true, Bool.false_eq_true, if_false]
    obtain ⟨b1, b2⟩ := List.nodup_cons.1 b
    refine scan_mk r _ (fun y hy => a y (by simp [hy])) b2 (fun y hy hp => ?_)
    rcases List.mem_append.1 hp with hp | hp
    · exact c y (by simp [hy]) hp
    · simp at hp; subst hp; exact b1 hy
theorem idsF_mk {L : List Int} (h : L.length ≤ 12) (a : ∀ x ∈ L, okId x = true) (b : L.Nodup) : idsF L = 0 := by
  rw [idsF_few h]; exact scan_mk L [] a b (by simp)

theorem askF_ids {L : List Int} {s : Int} (h : idsF L ≠ 0) : askF L s = idsF L := by simp [askF, h]
theorem askF_no {L : List Int} {s : Int} (h : idsF L = 0) (hs : s < 0 ∨ 3 < s) : askF L s = 3 := by
  unfold askF; rw [if_pos h, if_neg (by omega)]
theorem askF_yes {L : List Int} {s : Int} (h : idsF L = 0) (h0 : 0 ≤ s) (h1 : s ≤ 3) : askF L s = 0 := by
  unfold askF; rw [if_pos h, if_pos ⟨h0, h1⟩]
theorem askF_ok {L : List Int} {s : Int} (h : askF L s = 0) : idsF L = 0 ∧ 0 ≤ s ∧ s ≤ 3 := by
  by_cases h1 : idsF L = 0
  · by_cases h2 : 0 ≤ s ∧ s ≤ 3
    · exact ⟨h1, h2.1, h2.2⟩
    · rw [askF_no h1 (by omega)] at h; omega
  · rw [askF_ids h1] at h; exact absurd h h1

/-- Those of a slot; those of others. -/
def ownL (L : List Int) (s : Int) : List Int := L.filter fun x => slV x == s
def offL (L : List Int) (s : Int) : List Int := L.filter fun x => !(slV x == s)

theorem ownL_len (L : List Int) (s : Int) : (ownL L s).length ≤ L.length := List.length_filter_le _ _
theorem offL_len (L : List Int) (s : Int) : (offL L s).length ≤ L.length := List.length_filter_le _ _
theorem take_snoc {L : List Int} {k : Nat} (h : k < L.length) : L.take (k + 1) = L.take k ++ [L[k]] := by
  rw [List.take_add_one, List.getElem?_eq_getElem h]; rfl
theorem ownL_yes {L : List Int} {s : Int} {k : Nat} (h : k < L.length) (h2 : (slV L[k] == s) = true) : ownL (L.take (k + 1)) s = ownL (L.take k) s ++ [L[k]] := by
  unfold ownL; rw [take_snoc h, List.filter_append]; simp [h2]
theorem ownL_no {L : List Int} {s : Int} {k : Nat} (h : k < L.length) (h2 : (slV L[k] == s) = false) : ownL (L.take (k + 1)) s = ownL (L.take k) s := by
  unfold ownL; rw [take_snoc h, List.filter_append]; simp [h2]

/-- The lowest free id of a slot; -1: there is none. -/
def nxt (L : List Int) (s : Int) : Int :=
  if L.contains (64 * s + 1) then (if L.contains (64 * s + 2) then (if L.contains (64 * s + 3) then -1 else 64 * s + 3) else 64 * s + 2) else 64 * s + 1
end Go.Proofs.Ytmmjannkfmiohaa

namespace Go.Proofs.Ytmmjannkfmiohaa
open Go.RowKit
set_option linter.unusedVariables false

theorem tmod64 {x : Int} (h : 0 ≤ x) : x.tmod 64 = x % 64 := Int.tmod_eq_emod_of_nonneg h
theorem tdiv64 {x : Int} (h : 0 ≤ x) : x.tdiv 64 = x / 64 := Int.tdiv_eq_ediv_of_nonneg h

set_option maxHeartbeats 1000000 in
theorem iSlot_yes (x : Int) (w : World) (h : okId x = true) :
    Calls Try.prog 51 #[.int .i64 x] w fun e w' => e = .returned (.agg #[.int .i64 0, .int .i64 (x / 64)]) ∧ Below w.heap.size w w' := by
  rw [okId_iff] at h
  obtain ⟨h0, h1, h2, h3⟩ := h
  have t := tmod64 h0
  have d := tdiv64 h0
  have hlo : ¬ x < 1 := by omega
  have hhi : ¬ 195 < x := by omega
  have hm1 : ¬ x % 64 < 1 := by omega
  have hm3 : ¬ 3 < x % 64 := by omega
  have hd : IntKind.i64.wrap (x / 64) = x / 64 := IntWalk.i64_in _ (by omega)
  have hd2 : IntKind.i64.wrap (x % 64) = x % 64 := IntWalk.i64_in _ (by omega)
  go_enter Try.func51, Try.ntmps51
  go_wp2
  go_returns
  exact ⟨rfl, by go_grown⟩

set_option maxHeartbeats 1000000 in
theorem iSlot_no (x : Int) (w : World) (h : okId x = false) :
    Calls Try.prog 51 #[.int .i64 x] w fun e w' => e = .returned (.agg #[.int .i64 3, .int .i64 0]) ∧ Below w.heap.size w w' := by
  rw [okId_not] at h
  by_cases hlo : x < 1
  · clear h
    go_enter Try.func51, Try.ntmps51
    go_wp2
    go_returns
    exact ⟨rfl, by go_grown⟩
  by_cases hhi : 195 < x
  · clear h
    go_enter Try.func51, Try.ntmps51
    go_wp2
    go_returns
    exact ⟨rfl, by go_grown⟩
  have t := tmod64 (x := x) (by omega)
  have hd2 : IntKind.i64.wrap (x % 64) = x % 64 := IntWalk.i64_in _ (by omega)
  by_cases hm1 : x % 64 < 1
  · clear h
    go_enter Try.func51, Try.ntmps51
    go_wp2
    go_returns
    exact ⟨rfl, by go_grown⟩
  have hm3 : 3 < x % 64 := by omega
  clear h
  go_enter Try.func51, Try.ntmps51
  go_wp2
  go_returns
  exact ⟨rfl, by go_grown⟩

theorem iSlot_any (x : Int) (w : World) :
    Calls Try.prog 51 #[.int .i64 x] w fun e w' => e = .returned (.agg #[.int .i64 (slC x), .int .i64 (slV x)]) ∧ Below w.heap.size w w' := by
  cases h : okId x
  · rw [slC_no h, slV_no h]; exact iSlot_no x w h
  · rw [slC_yes h, slV_yes h]; exact iSlot_yes x w h

set_option maxHeartbeats 400000 in
theorem in5_yes (n a b : Int) (w : World) (h : a ≤ n) (h2 : n ≤ b) :
    Calls Try.prog 53 #[.int .i64 n, .int .i64 a, .int .i64 b] w fun e w' => e = .returned (.bool true) ∧ w' = w := by
  go_enter Try.func53, Try.ntmps53
  go_wp2
  go_returns
  exact ⟨rfl, rfl⟩

set_option maxHeartbeats 400000 in
theorem in5_no (n a b : Int) (w : World) (h : n < a ∨ b < n) :
    Calls Try.prog 53 #[.int .i64 n, .int .i64 a, .int .i64 b] w fun e w' => e = .returned (.bool false) ∧ w' = w := by
  by_cases h1 : a ≤ n
  · have h2 : ¬ n ≤ b := by omega
    clear h
    go_enter Try.func53, Try.ntmps53
    go_wp2
    go_returns
    exact ⟨congrArg (fun b => Ending.returned (.bool b)) (by first | rfl | (simp; omega)), rfl⟩
  · clear h
    go_enter Try.func53, Try.ntmps53
    go_wp2
    go_returns
    exact ⟨congrArg (fun b => Ending.returned (.bool b)) (by first | rfl | (simp; omega)), rfl⟩

theorem in5_any (n a b : Int) (w : World) :
    Calls Try.prog 53 #[.int .i64 n, .int .i64 a, .int .i64 b] w fun e w' => e = .returned (.bool (decide (a ≤ n ∧ n ≤ b))) ∧ w' = w := by
  by_cases h : a ≤ n ∧ n ≤ b
  · rw [decide_eq_true h]; exact in5_yes n a b w h.1 h.2
  · rw [decide_eq_false h]; exact in5_no n a b w (by omega)

set_option maxHeartbeats 400000 in
theorem sId_any (x : Int) (w : World) :
    Calls Try.prog 67 #[.int .i64 x] w fun e w' => e = .returned (.bool (okId x)) ∧ w' = w := by
  by_cases h : 0 ≤ x ∧ x ≤ 255
  · have t := tmod64 h.1
    have hd2 : IntKind.i64.wrap (x % 64) = x % 64 := IntWalk.i64_in _ (by omega)
    have e : okId x = decide (1 ≤ x % 64 ∧ x % 64 ≤ 3) := by simp [okId, h]
    have D1 : decide (0 ≤ x ∧ x ≤ 255) = true := decide_eq_true h
    rw [e]
    clear h e
    go_enter Try.func67, Try.ntmps67
    go_wp2_with (go_at_call 53; refine Calls.mono (in5_any _ _ _ _) ?_; rintro e w1 ⟨rfl, rfl⟩; (try rw [D1]))
    go_returns
    exact ⟨congrArg (fun b => Ending.returned (.bool b)) (by simp), rfl⟩
  · have e : okId x = false := by rw [okId_not]; omega
    have D1 : decide (0 ≤ x ∧ x ≤ 255) = false := decide_eq_false h
    rw [e]
    clear h e
    go_enter Try.func67, Try.ntmps67
    go_wp2_with (go_at_call 53; refine Calls.mono (in5_any _ _ _ _) ?_; rintro e w1 ⟨rfl, rfl⟩; (try rw [D1]))
    go_returns
    exact ⟨rfl, rfl⟩

end Go.Proofs.Ytmmjannkfmiohaa
