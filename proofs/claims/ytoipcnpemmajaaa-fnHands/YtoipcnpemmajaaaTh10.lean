/- Numbers of things: which are ids, of which slot; faults of a list of them; the lowest free one. Mathematics alone. SlotOf: the program's, the model's, and the law's walk. Lists of ids by the model: whether one is there, their faults, the slot asked behind them. -/
import Derived.Test.YtoipcnpemmajaaaTh2
import Derived.Test.YtoipcnpemmajaaaTh3
namespace Go.Proofs.Ytoipcnpemmajaaa
set_option linter.unusedVariables false

/-- Is it an id? -/
def okId (x : Int) : Bool := decide (0 ≤ x ∧ x ≤ 255) && decide (1 ≤ x % 64 ∧ x % 64 ≤ 3)
/-- The code and the value of SlotOf. -/
def slC (x : Int) : Int := if okId x then 0 else 3
def slV (x : Int) : Int := if okId x then x / 64 else 0
theorem slC_yes {x : Int} (h : okId x = true) : slC x = 0 := by simp [slC, h]
theorem slC_no {x : Int} (h : okId x = false) : slC x = 3 := by simp [slC, h]
theorem slV_yes {x : Int} (h : okId x = true) : slV x = x / 64 := by simp [slV, h]
theorem slV_no {x : Int} (h : okId x = false) : slV x = 0 := by simp [slV, h]
theorem okId_iff {x : Int} : okId x = true ↔ (0 ≤ x ∧ x ≤ 255 ∧ 1 ≤ x % 64 ∧ x % 64 ≤ 3) := by simp [okId, and_assoc]
theorem okId_not {x : Int} : okId x = false ↔ ¬ (0 ≤ x ∧ x ≤ 255 ∧ 1 ≤ x % 64 ∧ x % 64 ≤ 3) := by
  rw [← okId_iff]; simp

/-- Is it there? -/
def hasI (L : List Int) (v : Int) : Bool := L.contains v
theorem hasI_eq (L : List Int) (v : Int) : hasI L v = L.contains v := rfl

/-- What is found at the ids one by one: pre is what went before. -/
def scan (pre : List Int) : List Int → Int
  | [] => 0
  | x :: r => if okId x then (if pre.contains x then 8 else scan (pre ++ [x]) r) else 3
/-- The fault of a list of ids. -/
def idsF (L : List Int) : Int := if 12 < L.length then 2 else scan [] L
/-- .. and of a slot behind it. -/
def askF (L : List Int) (s : Int) : Int := if idsF L = 0 then (if 0 ≤ s ∧ s ≤ 3 then 0 else 3) else idsF L

theorem idsF_many {L : List Int} (h : 12 < L.length) : idsF L = 2 := by simp [idsF, h]
theorem idsF_few {L : List Int} (h : L.length ≤ 12) : idsF L = scan [] L := by simp [idsF]; omega
theorem idsF_len {L : List Int} (h : idsF L = 0) : L.length ≤ 12 := by
  by_cases h1 : 12 < L.length
  · rw [idsF_many h1] at h; omega
  · omega

theorem scan_done (L : List Int) (k : Nat) (hk : L.length ≤ k) : scan (L.take k) (L.drop k) = 0 := by
  rw [List.drop_eq_nil_of_le hk]; rfl
theorem scan_no {L : List Int} {k : Nat} (hk : k < L.length) (h : okId L[k] = false) : scan (L.take k) (L.drop k) = 3 := by
  rw [List.drop_eq_getElem_cons hk]; simp [scan, h]
theorem scan_twice {L : List Int} {k : Nat} (hk : k < L.length) (h : okId L[k] = true) (h2 : (L.take k).contains L[k] = true) : scan (L.take k) (L.drop k) = 8 := by
  rw [List.drop_eq_getElem_cons hk]; unfold scan; rw [h, h2]; simp
theorem scan_on {L : List Int} {k : Nat} (hk : k < L.length) (h : okId L[k] = true) (h2 : (L.take k).contains L[k] = false) : scan (L.take k) (L.drop k) = scan (L.take (k + 1)) (L.drop (k + 1)) := by
  rw [List.drop_eq_getElem_cons hk]
  show (if okId L[k] then (if (L.take k).contains L[k] then 8 else scan (L.take k ++ [L[k]]) (L.drop (k + 1))) else 3) = _
  rw [h, h2]
  simp

/-- A list without a fault: all are ids, none stands twice. -/
theorem scan_ok : ∀ (r pre : List Int), scan pre r = 0 → (∀ x ∈ r, okId x = true) ∧ r.Nodup ∧ ∀ x ∈ r, x ∉ pre
  | [], pre, _ => by simp
  | x :: r, pre, h => by
    cases h1 : okId x
    · simp [scan, h1] at h
    · cases h2 : pre.contains x
      · have h' : scan (pre ++ [x]) r = 0 := by
          have : scan pre (x :: r) = scan (pre ++ [x]) r := by
            show (if okId x then (if pre.contains x then 8 else scan (pre ++ [x]) r) else 3) = _
            rw [h1, h2]; simp
          rw [← this]; exact h
        obtain ⟨a, b, c⟩ := scan_ok r (pre ++ [x]) h'
        refine ⟨?_, ?_, ?_⟩
        · intro y hy
          rcases List.mem_cons.1 hy with rfl | hy
          · exact h1
          · exact a y hy
        · refine List.nodup_cons.2 ⟨fun hx => ?_, b⟩
          exact c x hx (by simp)
        · intro y hy
          rcases List.mem_cons.1 hy with rfl | hy
          · simpa using h2
          · exact fun hp => c y hy (by simp [hp])
      · have : scan pre (x :: r) = 8 := by
          show (if okId x then (if pre.contains x then 8 else scan (pre ++ [x]) r) else 3) = _
          rw [h1, h2]; simp
        omega
theorem idsF_ok {L : List Int} (h : idsF L = 0) : (∀ x ∈ L, okId x = true) ∧ L.Nodup := by
  have := idsF_len h
  rw [idsF_few this] at h
  exact ⟨(scan_ok L [] h).1, (scan_ok L [] h).2.1⟩
theorem scan_mk : ∀ (r pre : List Int), (∀ x ∈ r, okId x = true) → r.Nodup → (∀ x ∈ r, x ∉ pre) → scan pre r = 0
  | [], pre, _, _, _ => rfl
  | x :: r, pre, a, b, c => by
    have h1 := a x (by simp)
    have h2 : pre.contains x = false := by simpa using c x (by simp)
    show (if okId x then (if pre.contains x then 8 else scan (pre ++ [x]) r) else 3) = _
    rw [h1, h2]
    simp only [if_true, Bool.false_eq_true, if_false]
    obtain ⟨b1, b2⟩ := List.nodup_cons.1 b
    refine scan_mk r _ (fun y hy => a y (by simp [hy])) b2 (fun y hy hp => ?_)
    rcases List.mem_append.1 hp with hp | hp
    · exact c y (by simp [hy]) hp
    · simp at hp; subst hp; exact b1 hy
theorem idsF_mk {L : List Int} (h : L.length ≤ 12) (a : ∀ x ∈ L, okId x = true) (b : L.Nodup) : idsF L = 0 := by
  rw [idsF_few h]; exact scan_mk L [] a b (by simp)

theorem askF_ids {L : List Int} {s : Int} (h : idsF L ≠ 0) : askF L s = idsF L := by simp [askF, h]
theorem askF_no {L : List Int} {s : Int} (h : idsF L = 0) (hs : s < 0 ∨ 3 < s) : askF L s = 3 := by
  unfold askF; rw [if_pos h, if_neg (by omega)]
theorem askF_yes {L : List Int} {s : Int} (h : idsF L = 0) (h0 : 0 ≤ s) (h1 : s ≤ 3) : askF L s = 0 := by
  unfold askF; rw [if_pos h, if_pos ⟨h0, h1⟩]
theorem askF_ok {L : List Int} {s : Int} (h : askF L s = 0) : idsF L = 0 ∧ 0 ≤ s ∧ s ≤ 3 := by
  by_cases h1 : idsF L = 0
  · by_cases h2 : 0 ≤ s ∧ s ≤ 3
    · exact ⟨h1, h2.1, h2.2⟩
    · rw [askF_no h1 (by omega)] at h; omega
  · rw [askF_ids h1] at h; exact absurd h h1

/-- Those of a slot; those of others. -/
def ownL (L : List Int) (s : Int) : List Int := L.filter fun x => slV x == s
def offL (L : List Int) (s : Int) : List Int := L.filter fun x => !(slV x == s)

theorem ownL_len (L : List Int) (s : Int) : (ownL L s).length ≤ L.length := List.length_filter_le _ _
theorem offL_len (L : List Int) (s : Int) : (offL L s).length ≤ L.length := List.length_filter_le _ _
theorem take_snoc {L : List Int} {k : Nat} (h : k < L.length) : L.take (k + 1) = L.take k ++ [L[k]] := by
  rw [List.take_add_one, List.getElem?_eq_getElem h]; rfl
theorem ownL_yes {L : List Int} {s : Int} {k : Nat} (h : k < L.length) (h2 : (slV L[k] == s) = true) : ownL (L.take (k + 1)) s = ownL (L.take k) s ++ [L[k]] := by
  unfold ownL; rw [take_snoc h, List.filter_append]; simp [h2]
theorem ownL_no {L : List Int} {s : Int} {k : Nat} (h : k < L.length) (h2 : (slV L[k] == s) = false) : ownL (L.take (k + 1)) s = ownL (L.take k) s := by
  unfold ownL; rw [take_snoc h, List.filter_append]; simp [h2]

/-- The lowest free id of a slot; -1: there is none. -/
def nxt (L : List Int) (s : Int) : Int :=
  if L.contains (64 * s + 1) then (if L.contains (64 * s + 2) then (if L.contains (64 * s + 3) then -1 else 64 * s + 3) else 64 * s + 2) else 64 * s + 1
end Go.Proofs.Ytoipcnpemmajaaa

namespace Go.Proofs.Ytoipcnpemmajaaa
open Go.RowKit
set_option linter.unusedVariables false

theorem tmod64 {x : Int} (h : 0 ≤ x) : x.tmod 64 = x % 64 := Int.tmod_eq_emod_of_nonneg h
theorem tdiv64 {x : Int} (h : 0 ≤ x) : x.tdiv 64 = x / 64 := Int.tdiv_eq_ediv_of_nonneg h

set_option maxHeartbeats 1000000 in
theorem iSlot_yes (x : Int) (w : World) (h : okId x = true) :
    Calls Try.prog 100 #[.int .i64 x] w fun e w' => e = .returned (.agg #[.int .i64 0, .int .i64 (x / 64)]) ∧ Below w.heap.size w w' := by
  rw [okId_iff] at h
  obtain ⟨h0, h1, h2, h3⟩ := h
  have t := tmod64 h0
  have d := tdiv64 h0
  have hlo : ¬ x < 1 := by omega
  have hhi : ¬ 195 < x := by omega
  have hm1 : ¬ x % 64 < 1 := by omega
  have hm3 : ¬ 3 < x % 64 := by omega
  have hd : IntKind.i64.wrap (x / 64) = x / 64 := IntWalk.i64_in _ (by omega)
  have hd2 : IntKind.i64.wrap (x % 64) = x % 64 := IntWalk.i64_in _ (by omega)
  go_enter Try.func100, Try.ntmps100
  go_wp2
  go_returns
  exact ⟨rfl, by go_grown⟩

set_option maxHeartbeats 1000000 in
theorem iSlot_no (x : Int) (w : World) (h : okId x = false) :
    Calls Try.prog 100 #[.int .i64 x] w fun e w' => e = .returned (.agg #[.int .i64 3, .int .i64 0]) ∧ Below w.heap.size w w' := by
  rw [okId_not] at h
  by_cases hlo : x < 1
  · clear h
    go_enter Try.func100, Try.ntmps100
    go_wp2
    go_returns
    exact ⟨rfl, by go_grown⟩
  by_cases hhi : 195 < x
  · clear h
    go_enter Try.func100, Try.ntmps100
    go_wp2
    go_returns
    exact ⟨rfl, by go_grown⟩
  have t := tmod64 (x := x) (by omega)
  have hd2 : IntKind.i64.wrap (x % 64) = x % 64 := IntWalk.i64_in _ (by omega)
  by_cases hm1 : x % 64 < 1
  · clear h
    go_enter Try.func100, Try.ntmps100
    go_wp2
    go_returns
    exact ⟨rfl, by go_grown⟩
  have hm3 : 3 < x % 64 := by omega
  clear h
  go_enter Try.func100, Try.ntmps100
  go_wp2
  go_returns
  exact ⟨rfl, by go_grown⟩

theorem iSlot_any (x : Int) (w : World) :
    Calls Try.prog 100 #[.int .i64 x] w fun e w' => e = .returned (.agg #[.int .i64 (slC x), .int .i64 (slV x)]) ∧ Below w.heap.size w w' := by
  cases h : okId x
  · rw [slC_no h, slV_no h]; exact iSlot_no x w h
  · rw [slC_yes h, slV_yes h]; exact iSlot_yes x w h

set_option maxHeartbeats 400000 in
theorem in5_yes (n a b : Int) (w : World) (h : a ≤ n) (h2 : n ≤ b) :
    Calls Try.prog 79 #[.int .i64 n, .int .i64 a, .int .i64 b] w fun e w' => e = .returned (.bool true) ∧ w' = w := by
  go_enter Try.func79, Try.ntmps79
  go_wp2
  go_returns
  exact ⟨rfl, rfl⟩

set_option maxHeartbeats 400000 in
theorem in5_no (n a b : Int) (w : World) (h : n < a ∨ b < n) :
    Calls Try.prog 79 #[.int .i64 n, .int .i64 a, .int .i64 b] w fun e w' => e = .returned (.bool false) ∧ w' = w := by
  by_cases h1 : a ≤ n
  · have h2 : ¬ n ≤ b := by omega
    clear h
    go_enter Try.func79, Try.ntmps79
    go_wp2
    go_returns
    exact ⟨congrArg (fun b => Ending.returned (.bool b)) (by first | rfl | (simp; omega)), rfl⟩
  · clear h
    go_enter Try.func79, Try.ntmps79
    go_wp2
    go_returns
    exact ⟨congrArg (fun b => Ending.returned (.bool b)) (by first | rfl | (simp; omega)), rfl⟩

theorem in5_any (n a b : Int) (w : World) :
    Calls Try.prog 79 #[.int .i64 n, .int .i64 a, .int .i64 b] w fun e w' => e = .returned (.bool (decide (a ≤ n ∧ n ≤ b))) ∧ w' = w := by
  by_cases h : a ≤ n ∧ n ≤ b
  · rw [decide_eq_true h]; exact in5_yes n a b w h.1 h.2
  · rw [decide_eq_false h]; exact in5_no n a b w (by omega)

set_option maxHeartbeats 400000 in
theorem sId_any (x : Int) (w : World) :
    Calls Try.prog 97 #[.int .i64 x] w fun e w' => e = .returned (.bool (okId x)) ∧ w' = w := by
  by_cases h : 0 ≤ x ∧ x ≤ 255
  · have t := tmod64 h.1
    have hd2 : IntKind.i64.wrap (x % 64) = x % 64 := IntWalk.i64_in _ (by omega)
    have e : okId x = decide (1 ≤ x % 64 ∧ x % 64 ≤ 3) := by simp [okId, h]
    have D1 : decide (0 ≤ x ∧ x ≤ 255) = true := decide_eq_true h
    rw [e]
    clear h e
    go_enter Try.func97, Try.ntmps97
    go_wp2_with (go_at_call 79; refine Calls.mono (in5_any _ _ _ _) ?_; rintro e w1 ⟨rfl, rfl⟩; (try rw [D1]))
    go_returns
    exact ⟨congrArg (fun b => Ending.returned (.bool b)) (by simp), rfl⟩
  · have e : okId x = false := by rw [okId_not]; omega
    have D1 : decide (0 ≤ x ∧ x ≤ 255) = false := decide_eq_false h
    rw [e]
    clear h e
    go_enter Try.func97, Try.ntmps97
    go_wp2_with (go_at_call 79; refine Calls.mono (in5_any _ _ _ _) ?_; rintro e w1 ⟨rfl, rfl⟩; (try rw [D1]))
    go_returns
    exact ⟨rfl, rfl⟩

end Go.Proofs.Ytoipcnpemmajaaa

namespace Go.Proofs.Ytoipcnpemmajaaa
open Go.RowKit
set_option linter.unusedVariables false

theorem Try.infoI5 : (Try.prog.info? 2).map (fun i => (i.zero, i.size, i.bytes)) = some (some (.int .i64 0), 1, 8) := by kernel_rfl

theorem Row.uptoI {k : IntKind} {w : World} {lo hi g o : Nat} {L : List Int} (h : Row k w lo hi (some ⟨g, o, none⟩) L) (i : Nat) : Row k w lo hi (some ⟨g, o, none⟩) (L.take i) := by
  rcases h with rfl | ⟨g', o', ha, h1, h2, hcl⟩
  · exact .inl (by simp)
  · cases ha
    exact .inr ⟨g, _, rfl, h1, h2, fun j hj => by rw [List.getElem_take]; exact hcl j (by simp at hj; omega)⟩

theorem Try.sizeI5 (w : World) : (sizeOf 2).run Try.prog w = .ok 1 w := by
  obtain ⟨i0, hi0, hz0, hz1, hz2⟩ := info_parts Try.infoI5
  simp [sizeOf, typeInfo, hi0, hz1]

set_option maxRecDepth 100000 in
theorem sl_uptoI (g o len cap : Nat) (kh : IntKind) (h : Int) (h0 : 0 ≤ h) (h1 : h ≤ cap) (w : World) :
    (Instr.slice 48 (.slice (some ⟨g, o, none⟩) len cap) none (some (.int kh h)) none).run Try.prog w = .ok (.slice (some ⟨g, o, none⟩) h.toNat cap) w := by
  rw [run_slice_h w 48 _ len cap Try.underlying48 kh h h0 h1]
  have e : Try.prog.elem 48 = 2 := by kernel_rfl
  rw [e, Try.sizeI5]
  simp only [Result.andThen_ok]
  unfold sliced
  by_cases hc : cap = 0
  · simp [hc]
  · simp [hc, add_none]

theorem has_take_no {L : List Int} {v : Int} {k : Nat} (h : k < L.length) (h1 : (L.take k).contains v = false) (h2 : (L[k] == v) = false) : (L.take (k + 1)).contains v = false := by
  rw [take_snoc h]
  have e : L[k] ≠ v := by simpa using h2
  simp only [List.contains_eq_mem, List.mem_append, List.mem_singleton, decide_eq_false_iff_not] at h1 ⊢
  rintro (h | h)
  · exact h1 h
  · exact e h.symm
theorem has_take_yes {L : List Int} {v : Int} {k : Nat} (h : k < L.length) (h2 : (L[k] == v) = true) : L.contains v = true := by
  have e : L[k] = v := by simpa using h2
  rw [← e]
  simp

set_option maxHeartbeats 1000000 in
theorem sHas_any (lo hi : Nat) (ao : Option Addr) (ca : Nat) (L : List Int) (v : Int) (w : World) (ha : Row .i64 w lo hi ao L) (hl : L.length ≤ 1048576) :
    Calls Try.prog 98 #[.slice ao L.length ca, .int .i64 v] w fun e w' => e = .returned (.bool (hasI L v)) ∧ w' = w := by
  have hl' : (L.length : Int) ≤ 1048576 := by omega
  have HA := hideP ha
  clear ha
  go_enter Try.func98, Try.ntmps98
  go_wp2
  go_loop [5] (fun i => ∃ k : Nat, k ≤ L.length ∧ i = .int .i64 k ∧ (L.take k).contains v = false) (fun i => L.length - (intOf i).toNat)
  case atStart => exact ⟨0, Nat.zero_le _, rfl, by simp⟩
  case round =>
    obtain ⟨k, hk, rfl, hno⟩ := hrel
    by_cases hlt : k < L.length
    · have hlt' : (k : Int) < (L.length : Int) := by omega
      have hne : L ≠ [] := fun e => by rw [e] at hlt; simp at hlt
      rcases HA.out with e | ⟨g, o, rfl, _, hg, hc⟩
      · exact absurd e hne
      have a0 := hc k hlt
      have Y : (L[k] == v) = true → L.contains v = true := has_take_yes hlt
      have N := hideP (fun h => has_take_no hlt hno h)
      clear hc HA hno
      obtain ⟨x, hx⟩ : ∃ x, L[k] = x := ⟨_, rfl⟩
      rw [hx] at a0 Y N
      clear hx
      cases hxe : (x == v)
      · clear Y
        go_wp2
        go_round
        case rel => exact ⟨k + 1, by omega, by go_num, N.out hxe⟩
        case measure => simp [intOf]; omega
      · have Y' : Hid (true = hasI L v) := (Y hxe).symm
        clear N Y
        go_wp2
        go_returns
        exact ⟨congrArg (fun b => Ending.returned (.bool b)) Y'.out, rfl⟩
    · obtain rfl : k = L.length := by omega
      rw [List.take_length] at hno
      have hno' : Hid (false = hasI L v) := hno.symm
      clear hno
      go_wp2
      go_returns
      exact ⟨congrArg (fun b => Ending.returned (.bool b)) hno'.out, rfl⟩

set_option maxHeartbeats 2000000 in
theorem sFault5_any (lo hi : Nat) (ao : Option Addr) (ca : Nat) (L : List Int) (w : World) (ha : Row .i64 w lo hi ao L) (hs : hi ≤ w.heap.size) (hl : L.length ≤ 1048576) (hca : L.length ≤ ca) :
    Calls Try.prog 70 #[.slice ao L.length ca] w fun e w' => e = .returned (.int .i64 (idsF L)) ∧ Below w.heap.size w w' := by
  have hl' : (L.length : Int) ≤ 1048576 := by omega
  have HA := hideP ha
  clear ha
  by_cases hmany : 12 < L.length
  · have hmany' : (12 : Int) < (L.length : Int) := by omega
    have e := hideP (idsF_many hmany).symm
    go_enter Try.func70, Try.ntmps70
    go_wp2
    go_returns
    exact ⟨congrArg (fun x => Ending.returned (.int .i64 x)) e.out, Below.refl _ _⟩
  have hfew' : ¬ (12 : Int) < (L.length : Int) := by omega
  have HF := hideP (idsF_few (L := L) (by omega))
  go_enter Try.func70, Try.ntmps70
  go_wp2
  go_loopw [3] (fun i wr => ∃ k : Nat, k ≤ L.length ∧ i = .int .i64 k ∧ Below w.heap.size w wr ∧ scan (L.take k) (L.drop k) = scan [] L) (fun i _ => L.length - (intOf i).toNat)
  case atStart => exact ⟨0, Nat.zero_le _, rfl, Below.refl _ _, by simp⟩
  case round =>
    obtain ⟨k, hk, rfl, hbel, hsc⟩ := hrel
    have hz := hbel.size
    by_cases hlt : k < L.length
    · have hlt' : (k : Int) < (L.length : Int) := by omega
      have hne : L ≠ [] := fun e => by rw [e] at hlt; simp at hlt
      rcases HA.out with e | ⟨g, o, rfl, hlo, hg, hc⟩
      · exact absurd e hne
      have hR : Row .i64 w lo hi (some ⟨g, o, none⟩) L := .inr ⟨g, o, rfl, hlo, hg, hc⟩
      have HT := hideP ((hR.keep hbel (by omega)).uptoI k)
      have a0 := (hbel.cell (p := ⟨g, o + k, none⟩) (by show g < _; omega)).trans (hc k hlt)
      have N1 := hideP (scan_no hlt)
      have N2 := hideP (scan_twice hlt)
      have N3 := hideP (scan_on hlt)
      have HSC := hideP hsc
      have HBel := hideP hbel
      have hgl : g < wr.heap.size := by omega
      have htk : (L.take k).length = k := by simp; omega
      clear hc HA hsc hbel hR hne
      obtain ⟨x, hx⟩ : ∃ x, L[k] = x := ⟨_, rfl⟩
      rw [hx] at a0 N1 N2 N3
      clear hx
      obtain ⟨T, hT⟩ : ∃ T, L.take k = T := ⟨_, rfl⟩
      rw [hT] at N1 N2 N3 HSC HT htk
      have HTL := hideP htk
      clear hT htk
      cases hok : okId x
      · go_wp2_with (go_at_call 97; refine Calls.mono (sId_any _ _) ?_; rintro e w1 ⟨rfl, rfl⟩; rw [hok])
        go_returns
        exact ⟨congrArg (fun x => Ending.returned (.int .i64 x)) (by rw [HF.out, ← HSC.out, N1.out hok]), HBel.out⟩
      · have hcak : (k : Int) ≤ (ca : Int) := by omega
        have hk0 : (0 : Int) ≤ (k : Int) := by omega
        have SL := sl_uptoI g o L.length ca .i64 k hk0 hcak
        rw [Int.toNat_natCast] at SL
        have CH := hideP (fun w1 (kk : Kept wr w1) => sHas_any lo hi (some ⟨g, o, none⟩) ca T x w1 (HT.out.keep kk (by omega)) (by rw [HTL.out]; omega))
        rw [HTL.out] at CH
        cases hha : hasI T x
        · rw [hha] at CH
          have HS1 := hideP (HSC.out.symm.trans (N3.out hok hha)).symm
          clear HSC N1 N2 N3 HT
          go_wp2_with (go_at_call 97; refine Calls.mono (sId_any _ _) ?_; rintro e w1 ⟨rfl, rfl⟩; rw [hok])
          refine wp_region_kept (by kernel_rfl) (by kernel_rfl) ?_
          repeat (refine kept_step (by rfl) ?_; apply Exists.intro; refine ⟨fun w1 k1 => ?_, fun K hK => ?_⟩; (focus (have hc := Kept.cell k1; go_simp; first | done | rfl | (go_at_call 98; exact kept_call_same k1 (CH.out _ k1)))); (go_simp; refine hK _ ?_; clear hK K))
          refine wpQuiet_nil ?_
          intro w8 k8
          replace k8 := Kept.below k8
          have hc8 := Kept.cell k8
          have hf8 := Kept.frozen k8
          have hz8 := k8.size
          try simp only [World.size_alloc] at hz8
          try simp only [World.size_setCell] at hz8
          try simp only [World.size_drew] at hz8
          try (first | have hs8 := sz12 hz8 | have hs8 := sz11 hz8 | have hs8 := sz10 hz8 | have hs8 := sz9 hz8 | have hs8 := sz8 hz8 | have hs8 := sz7 hz8 | have hs8 := sz6 hz8 | have hs8 := sz5 hz8 | have hs8 := sz4 hz8 | have hs8 := sz3 hz8 | have hs8 := sz2 hz8 | have hs8 := sz1 hz8)
          go_wp2
          go_roundw
          case rel => exact ⟨k + 1, by omega, by go_num, HBel.out.trans (k8.mono HBel.out.size), HS1.out⟩
          case measure => simp [intOf]; omega
        · rw [hha] at CH
          have HS1 := hideP (HSC.out.symm.trans (N2.out hok hha)).symm
          clear HSC N1 N2 N3 HT
          go_wp2_with (go_at_call 97; refine Calls.mono (sId_any _ _) ?_; rintro e w1 ⟨rfl, rfl⟩; rw [hok])
          refine wp_region_kept (by kernel_rfl) (by kernel_rfl) ?_
          repeat (refine kept_step (by rfl) ?_; apply Exists.intro; refine ⟨fun w1 k1 => ?_, fun K hK => ?_⟩; (focus (have hc := Kept.cell k1; go_simp; first | done | rfl | (go_at_call 98; exact kept_call_same k1 (CH.out _ k1)))); (go_simp; refine hK _ ?_; clear hK K))
          refine wpQuiet_nil ?_
          intro w8 k8
          replace k8 := Kept.below k8
          have hc8 := Kept.cell k8
          have hf8 := Kept.frozen k8
          have hz8 := k8.size
          try simp only [World.size_alloc] at hz8
          try simp only [World.size_setCell] at hz8
          try simp only [World.size_drew] at hz8
          try (first | have hs8 := sz12 hz8 | have hs8 := sz11 hz8 | have hs8 := sz10 hz8 | have hs8 := sz9 hz8 | have hs8 := sz8 hz8 | have hs8 := sz7 hz8 | have hs8 := sz6 hz8 | have hs8 := sz5 hz8 | have hs8 := sz4 hz8 | have hs8 := sz3 hz8 | have hs8 := sz2 hz8 | have hs8 := sz1 hz8)
          go_wp2
          go_returns
          exact ⟨congrArg (fun x => Ending.returned (.int .i64 x)) (by rw [HF.out]; exact HS1.out), HBel.out.trans (k8.mono HBel.out.size)⟩
    · obtain rfl : k = L.length := by omega
      have HSC := hideP hsc
      have HBel := hideP hbel
      clear hsc hbel
      go_wp2
      go_returns
      exact ⟨congrArg (fun x => Ending.returned (.int .i64 x)) (by rw [HF.out, ← HSC.out, scan_done L _ (Nat.le_refl _)]), HBel.out⟩

set_option maxHeartbeats 400000 in
theorem sSlot5_any (s : Int) (w : World) :
    Calls Try.prog 110 #[.int .i64 s] w fun e w' => e = .returned (.bool (decide (0 ≤ s ∧ s ≤ 3))) ∧ w' = w := by
  have C := hideP (in5_any s 0 3 w)
  generalize decide (0 ≤ s ∧ s ≤ 3) = b at C
  go_enter Try.func110, Try.ntmps110
  go_wp2_with (go_at_call 79; refine Calls.mono C.out ?_; rintro e w1 ⟨rfl, rfl⟩)
  go_returns
  exact ⟨rfl, rfl⟩

end Go.Proofs.Ytoipcnpemmajaaa
