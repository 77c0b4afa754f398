/- Panes taken out: whether one is meant, the first one, and the row behind it. Panes taken out: the library's IndexFunc and DeleteFunc. -/
import Derived.Test.YtejgcheddloffaaTr19
import Derived.Laws.CopyRow
import Derived.Lib.SliceRun
namespace Go.Proofs.Ytejgcheddloffaa
open Go.RowKit Go.Maps
set_option linter.unusedVariables false

/-- A block of so many cells of one kind. -/
def Blk (w : World) (g : Nat) (T : TypeId) (m : Nat) : Prop := ∃ cur, w.heap[g]? = some (.cells cur T (0, 0)) ∧ cur.size = m
theorem Blk.set {w : World} {g m : Nat} {T : TypeId} (h : Blk w g T m) (b o : Nat) (v : Value) : Blk (w.setCell ⟨b, o, none⟩ v) g T m := by
  obtain ⟨cur, h, hs⟩ := h
  by_cases e : b = g
  · subst e
    exact ⟨_, heap_setCell_same w b o cur T v h, by simpa using hs⟩
  · exact ⟨cur, (heap_setCell_other w ⟨b, o, none⟩ g v (by simpa using fun h => e h.symm)).trans h, hs⟩
theorem Blk.keep {w w' : World} {g m : Nat} {T : TypeId} (h : Blk w g T m) (k : Below w.heap.size w w') : Blk w' g T m := by
  obtain ⟨cur, h, hs⟩ := h
  exact ⟨cur, (k.block g (Array.getElem?_eq_some_iff.1 h).1).trans h, hs⟩
theorem Blk.lt {w : World} {g m : Nat} {T : TypeId} (h : Blk w g T m) : g < w.heap.size := by
  obtain ⟨cur, h, hs⟩ := h
  exact (Array.getElem?_eq_some_iff.1 h).1
theorem OwnV.blk {V : Wn → List Value} {T : TypeId} {w : World} {base g c : Nat} {L : List Wn} (h : OwnV V T w base (some ⟨g, 0, none⟩) c L) : Blk w g T (c * 7) ∧ L.length ≤ c ∧ c ≤ maxLen ∧ base ≤ g := by
  rcases h.2 with ⟨hv, _⟩ | ⟨g', c', cur, hv, h1, h2, h3, h4, h5, _⟩
  · cases hv
  · cases hv
    exact ⟨⟨cur, h2, h5⟩, h3, h4, h1⟩
theorem OwnV.of {V : Wn → List Value} {T : TypeId} {w : World} {base g c : Nat} {L : List Wn} (hV : ∀ v, (V v).length = 7) (hb : Blk w g T (c * 7)) (hl : L.length ≤ c) (hm : c ≤ maxLen) (hg : base ≤ g) (hc : ∀ i (h : i < L.length), Cl V w g (i * 7) L[i]) : OwnV V T w base (some ⟨g, 0, none⟩) c L := by
  obtain ⟨cur, h, hs⟩ := hb
  refine ⟨vcs_len hV L, .inr ⟨g, c, cur, rfl, hg, h, hl, hm, hs, ?_⟩⟩
  apply List.ext_getElem?
  intro j
  by_cases hj : j < L.length * 7
  · have hi : j / 7 < L.length := by omega
    have h1 := hc (j / 7) hi (j % 7) (by omega)
    have h2 := vcs_at hV L (j / 7) hi (j % 7) (by omega)
    rw [show j / 7 * 7 + j % 7 = j by omega] at h1 h2
    rw [h2, ← h1, List.getElem?_take_of_lt hj]
    simp [World.cell?, h]
  · rw [List.getElem?_eq_none (by simp; omega), List.getElem?_eq_none (by rw [vcs_len hV]; omega)]

theorem Try.sizeP (w : World) : (sizeOf 51).run Try.prog w = .ok 7 w := by
  obtain ⟨i0, hi0, hz0, hz1, hz2⟩ := info_parts Try.infoPn
  simp [sizeOf, typeInfo, hi0, hz1]
theorem elemP : Try.prog.elem 57 = 51 := by kernel_rfl
theorem elemW : Try.prog.elem 24 = 38 := by kernel_rfl
theorem Try.sizeW (w : World) : (sizeOf 38).run Try.prog w = .ok 7 w := by
  obtain ⟨i0, hi0, hz0, hz1, hz2⟩ := info_parts Try.infoWn
  simp [sizeOf, typeInfo, hi0, hz1]
/-- Where the rest of a cut begins. -/
def wFrom (so : Option Addr) (cap i : Nat) : Option Addr := if cap = i then so else so.map (·.add (i * 7))
theorem addr7 (g o : Nat) : (⟨g, o, none⟩ : Addr).add 0 = ⟨g, o, none⟩ := by rw [add_none]; rfl
set_option maxRecDepth 100000 in
theorem sp_from (so : Option Addr) (len cap : Nat) (kl : IntKind) (l : Int) (h0 : 0 ≤ l) (h1 : l ≤ len) (w : World) :
    (Instr.slice 57 (.slice so len cap) (some (.int kl l)) none none).run Try.prog w = .ok (.slice (wFrom so cap l.toNat) (len - l.toNat) (cap - l.toNat)) w := by
  rw [run_slice_l w 57 _ len cap Try.underlying57 kl l h0 h1, elemP, Try.sizeP]
  simp only [Result.andThen_ok]
  rfl
set_option maxRecDepth 100000 in
theorem sp_upto (g : Nat) (len cap : Nat) (kh : IntKind) (h : Int) (h0 : 0 ≤ h) (h1 : h ≤ cap) (w : World) :
    (Instr.slice 57 (.slice (some ⟨g, 0, none⟩) len cap) none (some (.int kh h)) none).run Try.prog w = .ok (.slice (some ⟨g, 0, none⟩) h.toNat cap) w := by
  rw [run_slice_h w 57 _ len cap Try.underlying57 kh h h0 h1, elemP, Try.sizeP]
  simp only [Result.andThen_ok]
  unfold sliced
  by_cases hc : cap = 0
  · simp [hc]
  · simp [hc, add_none]
set_option maxRecDepth 100000 in
theorem sw_from (so : Option Addr) (len cap : Nat) (kl : IntKind) (l : Int) (h0 : 0 ≤ l) (h1 : l ≤ len) (w : World) :
    (Instr.slice 24 (.slice so len cap) (some (.int kl l)) none none).run Try.prog w = .ok (.slice (wFrom so cap l.toNat) (len - l.toNat) (cap - l.toNat)) w := by
  rw [run_slice_l w 24 _ len cap Try.underlying24 kl l h0 h1, elemW, Try.sizeW]
  simp only [Result.andThen_ok]
  rfl
set_option maxRecDepth 100000 in
theorem sw_upto (g : Nat) (len cap : Nat) (kh : IntKind) (h : Int) (h0 : 0 ≤ h) (h1 : h ≤ cap) (w : World) :
    (Instr.slice 24 (.slice (some ⟨g, 0, none⟩) len cap) none (some (.int kh h)) none).run Try.prog w = .ok (.slice (some ⟨g, 0, none⟩) h.toNat cap) w := by
  rw [run_slice_h w 24 _ len cap Try.underlying24 kh h h0 h1, elemW, Try.sizeW]
  simp only [Result.andThen_ok]
  unfold sliced
  by_cases hc : cap = 0
  · simp [hc]
  · simp [hc, add_none]

theorem zero7_len (n : Nat) : (Builtin.zeroCells #[.int .i64 0, .int .i64 0, .int .i64 0, .int .i64 0, .int .i64 0, .bool false, .slice none 0 0] n).toList.length = n * 7 := by simp [Builtin.zeroCells]
theorem zero7_one (n : Nat) : ∀ v ∈ (Builtin.zeroCells #[.int .i64 0, .int .i64 0, .int .i64 0, .int .i64 0, .int .i64 0, .bool false, .slice none 0 0] n).toList, v.oneCell' = true := by
  intro v hv
  simp only [Builtin.zeroCells, Array.toList_map, List.mem_map, Array.toList_range, List.mem_range] at hv
  obtain ⟨i, hi, rfl⟩ := hv
  have h7 : i % 7 = 0 ∨ i % 7 = 1 ∨ i % 7 = 2 ∨ i % 7 = 3 ∨ i % 7 = 4 ∨ i % 7 = 5 ∨ i % 7 = 6 := by omega
  rcases h7 with h | h | h | h | h | h | h <;> simp [h] <;> rfl
/-- The rest of a row of panes cleared. -/
theorem clearP (w : World) (ty : TypeId) (g o n cap : Nat) (cur : Array Value) (hn : 0 < n) (hg : w.heap[g]? = some (.cells cur 51 (0, 0))) (hfit : o + n * 7 ≤ cur.size) :
    ∃ w', (Builtin.clear_ #[57] ty #[.slice (some ⟨g, o, none⟩) n cap]).run Try.prog w = .ok (.tuple #[]) w' ∧ Far g (g + 1) w w' ∧ w'.heap.size = w.heap.size ∧ Blk w' g 51 cur.size ∧ (∀ j, j < o → w'.cell? ⟨g, j, none⟩ = w.cell? ⟨g, j, none⟩) ∧ ∀ c, w'.frozen? ⟨g, c, none⟩ = false := by
  obtain ⟨zs, hzs⟩ : ∃ zs, (Builtin.zeroCells #[.int .i64 0, .int .i64 0, .int .i64 0, .int .i64 0, .int .i64 0, .bool false, .slice none 0 0] n).toList = zs := ⟨_, rfl⟩
  have hzl : zs.length = n * 7 := by rw [← hzs]; exact zero7_len n
  have hz1 : ∀ v ∈ zs, v.oneCell' = true := by rw [← hzs]; exact zero7_one n
  have hst := run_storeCells_at Try.prog g o 51 zs 0 cur w hg (by rw [hzl]; simpa using hfit) hz1
  rw [hzl] at hst
  have hz : (Value.agg #[.int .i64 0, .int .i64 0, .int .i64 0, .int .i64 0, .int .i64 0, .bool false, .slice none 0 0]).cells = #[.int .i64 0, .int .i64 0, .int .i64 0, .int .i64 0, .int .i64 0, .bool false, .slice none 0 0] := by rfl
  obtain ⟨m, rfl⟩ : ∃ m, n = m + 1 := ⟨n - 1, by omega⟩
  simp only [Nat.add_zero] at hst
  have hcl : cur.toList.length = cur.size := by simp
  refine ⟨w.setRow g (cur.toList.take o ++ zs ++ cur.toList.drop (o + (m + 1) * 7)).toArray, by simp [Builtin.clear_, run_underlying Try.underlying57, hz, hzs, hst], ⟨rfl, rfl, rfl, by simp, fun b hb hc => setRow_other w g b _ (by omega)⟩, by simp, ⟨_, setRow_heap w g cur _ _ _ hg, ?_⟩, fun j hj => ?_, fun c => ?_⟩
  · simp only [List.size_toArray, List.length_append, List.length_take, List.length_drop, hzl, hcl]
    omega
  · have h1 := setRow_heap w g cur (cur.toList.take o ++ zs ++ cur.toList.drop (o + (m + 1) * 7)).toArray _ _ hg
    simp only [World.cell?, h1, hg]
    have : (cur.toList.take o ++ zs ++ cur.toList.drop (o + (m + 1) * 7))[j]? = cur.toList[j]? := by
      rw [List.append_assoc, List.getElem?_append_left (by rw [List.length_take, hcl]; omega), List.getElem?_take_of_lt hj]
    simpa using this
  · have h1 := setRow_heap w g cur (cur.toList.take o ++ zs ++ cur.toList.drop (o + (m + 1) * 7)).toArray _ _ hg
    exact frozen_of_row _ g c _ _ h1

theorem first_in {I : List Int} {id : Int} (h : id ∈ I) : ∃ A B, I = A ++ id :: B ∧ ∀ x ∈ A, x ≠ id := by
  induction I with
  | nil => simp at h
  | cons x I ih =>
    by_cases e : x = id
    · exact ⟨[], I, by rw [e]; rfl, fun x h => by simp at h⟩
    · obtain ⟨A, B, hh, hA⟩ := ih (by rcases List.mem_cons.1 h with h | h; exact absurd h.symm e; exact h)
      refine ⟨x :: A, B, by rw [hh]; rfl, fun y hy => ?_⟩
      rcases List.mem_cons.1 hy with rfl | hy
      · exact e
      · exact hA y hy

set_option maxRecDepth 100000 in
set_option maxHeartbeats 400000 in
theorem contains_any (lo hi : Nat) (ao : Option Addr) (ca : Nat) (I : List Int) (id : Int) (w : World) (hI : Row .i64 w lo hi ao I) (hs : hi ≤ w.heap.size) (hn : I.length ≤ 1048576) :
    Calls Try.prog 59 #[.slice ao I.length ca, .int .i64 id] w fun e w' => e = .returned (.bool (hasI I id)) ∧ w' = w := by
  by_cases h : id ∈ I
  · obtain ⟨A, B, he, hA⟩ := first_in h
    have IX := hideP (index_some lo hi ao ca I A B id w hI hs hn he hA)
    have hc : hasI I id = true := by unfold hasI; simpa using h
    rw [hc]
    have h0 : (0 : Int) ≤ (A.length : Int) := by omega
    clear hI he hA h hc hn hs
    generalize I.length = n at *
    go_enter Try.func59, Try.ntmps59
    go_wp2_with fail
    refine Calls.mono IX.out ?_
    rintro e w1 ⟨rfl, rfl⟩
    go_wp2
    go_returns
    exact ⟨rfl, rfl⟩
  · have IX := hideP (index_none lo hi ao ca I id w hI hs hn (fun x hx e => h (e ▸ hx)))
    have hc : hasI I id = false := by unfold hasI; simpa using h
    rw [hc]
    clear hI h hc hn hs
    generalize I.length = n at *
    go_enter Try.func59, Try.ntmps59
    go_wp2_with fail
    refine Calls.mono IX.out ?_
    rintro e w1 ⟨rfl, rfl⟩
    go_wp2
    go_returns
    exact ⟨rfl, rfl⟩

set_option maxRecDepth 100000 in
set_option maxHeartbeats 400000 in
theorem meant_any (lo hi bx : Nat) (io : Option Addr) (ic : Nat) (I : List Int) (i x y p h : Int) (m : Bool) (ao : Option Addr) (n ca : Nat) (w : World) (hb : w.cell? ⟨bx, 0, none⟩ = some (.slice io I.length ic)) (hI : Row .i64 w lo hi io I) (hs : hi ≤ w.heap.size) (hn : I.length ≤ 1048576) :
    Calls Try.prog 58 #[.agg #[.int .i64 x, .int .i64 y, .int .i64 p, .int .i64 h, .int .i64 i, .bool m, .slice ao n ca], .pointer (some ⟨bx, 0, none⟩)] w fun e w' => e = .returned (.bool (hasI I i)) ∧ Below w.heap.size w w' := by
  have hbl : bx < w.heap.size := World.block_lt_of_cell? w _ hb
  have CT := hideP (fun w1 (kk : Below w.heap.size w w1) => contains_any lo hi io ic I i w1 (hI.keep kk hs) (by have := kk.size; omega) hn)
  clear hI
  generalize I.length = k at *
  generalize hasI I i = q at *
  go_enter Try.func58, Try.ntmps58
  go_wp2_with fail
  refine Calls.mono (CT.out _ (by go_grown)) ?_
  rintro e w1 ⟨rfl, rfl⟩
  go_wp2
  go_returns
  exact ⟨rfl, by go_grown⟩
end Go.Proofs.Ytejgcheddloffaa

namespace Go.Proofs.Ytejgcheddloffaa
open Go.RowKit Go.Maps
set_option linter.unusedVariables false

/-- What is taken out is told in a box of its own. -/
structure Box1 (w : World) (bx lo hi : Nat) (io : Option Addr) (ic : Nat) (I : List Int) : Prop where
  c0 : w.cell? ⟨bx, 0, none⟩ = some (.slice io I.length ic)
  row : Row .i64 w lo hi io I
  hs : hi ≤ w.heap.size
theorem Box1.keep {w w' : World} {bx lo hi ic : Nat} {io : Option Addr} {I : List Int} (h : Box1 w bx lo hi io ic I) (k : Below w.heap.size w w') : Box1 w' bx lo hi io ic I :=
  ⟨(k.cell (p := ⟨bx, 0, none⟩) (World.block_lt_of_cell? w _ h.c0)).trans h.c0, h.row.keep k h.hs, Nat.le_trans h.hs k.size⟩
theorem Box1.far {w w' : World} {bx lo hi ic g : Nat} {io : Option Addr} {I : List Int} (h : Box1 w bx lo hi io ic I) (f : Far g (g + 1) w w') (h1 : bx ≠ g) (h2 : hi ≤ g ∨ g < lo) : Box1 w' bx lo hi io ic I :=
  ⟨(f.cell bx 0 (World.block_lt_of_cell? w _ h.c0) (by omega)).trans h.c0, h.row.far f (by omega) h.hs, Nat.le_trans h.hs f.size⟩
theorem Box1.lt {w : World} {bx lo hi ic : Nat} {io : Option Addr} {I : List Int} (h : Box1 w bx lo hi io ic I) : bx < w.heap.size := World.block_lt_of_cell? w _ h.c0

set_option maxRecDepth 100000 in
set_option maxHeartbeats 1000000 in
theorem ixF_none (bx lo hi lo2 hi2 : Nat) (io : Option Addr) (ic : Nat) (I : List Int) (so : Option Addr) (sc : Nat) (L : List Wn) (w : World) (hB : Box1 w bx lo2 hi2 io ic I) (hI : I.length ≤ 1048576) (hL : SpV Wn.pals w lo hi so L) (hs : hi ≤ w.heap.size) (hn : L.length ≤ 1048576) (h : ∀ v ∈ L, hasI I v.i = false) :
    Calls Try.prog 72 #[.slice so L.length sc, .func (.func 58) #[] #[.pointer (some ⟨bx, 0, none⟩)]] w fun e w' => e = .returned (.int .i64 (-1)) ∧ Below w.heap.size w w' := by
  have hn' : (L.length : Int) ≤ 1048576 := by omega
  have HL := hideP hL
  have HN := hideP h
  have HBx := hideP hB
  clear hL h hB
  go_enter Try.func72, Try.ntmps72
  go_wp2
  go_loopw [8] (fun i wr => ∃ X Y : List Wn, X ++ Y = L ∧ i = .int .i64 (X.length : Nat) ∧ Below w.heap.size w wr) (fun i _ => L.length - (intOf i).toNat)
  case atStart => exact ⟨[], L, rfl, rfl, Below.refl _ _⟩
  case round =>
    obtain ⟨X, Y, hXY, rfl, kb⟩ := hrel
    have hlen : X.length + Y.length = L.length := by rw [← hXY]; simp
    have hz := kb.size
    have HB := hideP kb
    cases Y with
    | cons r Y =>
      have hlt : (X.length : Int) < (L.length : Int) := by simp at hlen; omega
      have h0 := HL.out
      rw [← hXY] at h0
      obtain ⟨g, rfl, g1, g2, hc, _⟩ := SpV.at h0
      have hc' := (hc.keep kb (by omega)).pane
      have hgl : g < wr.heap.size := by omega
      have hno := HN.out r (by rw [← hXY]; simp)
      have HXY := hideP hXY
      have B1 := hideP (HBx.out.keep kb)
      clear h0 hc hXY hlen HL HN kb
      obtain ⟨ri, rx, ry, rp, rh, rm, ⟨ao, cap, gb, D⟩⟩ := r
      simp only at hc' hno
      obtain ⟨a0, a1, a2, a3, a4, a5, a6⟩ := hc'
      have MT := meant_any lo2 hi2 bx io ic I ri rx ry rp rh rm ao D.length cap wr B1.out.c0 B1.out.row B1.out.hs hI
      rw [hno] at MT
      have MT' := hideP MT
      clear MT hno
      go_wp2_with fail
      refine Calls.mono MT'.out ?_
      rintro e w1 ⟨rfl, k1⟩
      have HB1 := hideP (HB.out.trans (k1.mono hz))
      clear k1
      go_wp2
      go_roundw
      case rel => exact ⟨X ++ [⟨ri, rx, ry, rp, rh, rm, ⟨ao, cap, gb, D⟩⟩], Y, midW HXY.out, by simp, HB1.out⟩
      case measure => simp [intOf]; omega
    | nil =>
      have hX : X = L := by simpa using hXY
      subst hX
      clear hXY HL HN hlen kb
      go_wp2
      go_returns
      exact ⟨rfl, HB.out⟩

set_option maxRecDepth 100000 in
set_option maxHeartbeats 1000000 in
theorem ixF_some (bx lo hi lo2 hi2 : Nat) (io : Option Addr) (ic : Nat) (I : List Int) (so : Option Addr) (sc : Nat) (X0 Y0 : List Wn) (r0 : Wn) (n : Nat) (w : World) (hB : Box1 w bx lo2 hi2 io ic I) (hI : I.length ≤ 1048576) (hL : SpV Wn.pals w lo hi so (X0 ++ r0 :: Y0)) (hs : hi ≤ w.heap.size) (hnn : (X0 ++ r0 :: Y0).length = n) (hn : n ≤ 1048576) (h : ∀ v ∈ X0, hasI I v.i = false) (h0 : hasI I r0.i = true) :
    Calls Try.prog 72 #[.slice so n sc, .func (.func 58) #[] #[.pointer (some ⟨bx, 0, none⟩)]] w fun e w' => e = .returned (.int .i64 (X0.length : Nat)) ∧ Below w.heap.size w w' := by
  have hn' : (n : Int) ≤ 1048576 := by omega
  have hXn : (X0.length : Int) < (n : Int) := by rw [← hnn]; simp; omega
  have HL := hideP hL
  have HN := hideP h
  have H0 := hideP h0
  have HBx := hideP hB
  clear hL h hB h0 hnn
  go_enter Try.func72, Try.ntmps72
  go_wp2
  go_loopw [8] (fun i wr => ∃ X Y : List Wn, X ++ Y = X0 ∧ i = .int .i64 (X.length : Nat) ∧ Below w.heap.size w wr) (fun i _ => n - (intOf i).toNat)
  case atStart => exact ⟨[], X0, rfl, rfl, Below.refl _ _⟩
  case round =>
    obtain ⟨X, Y, hXY, rfl, kb⟩ := hrel
    have hlen : X.length + Y.length = X0.length := by rw [← hXY]; simp
    have hlt : (X.length : Int) < (n : Int) := by omega
    have hz := kb.size
    have HB := hideP kb
    cases Y with
    | cons r Y =>
      have h0 := HL.out
      rw [← hXY] at h0
      simp only [List.append_assoc, List.cons_append] at h0
      obtain ⟨g, rfl, g1, g2, hc, _⟩ := SpV.at h0
      have hc' := (hc.keep kb (by omega)).pane
      have hgl : g < wr.heap.size := by omega
      have hno := HN.out r (by rw [← hXY]; simp)
      have HXY := hideP hXY
      have B1 := hideP (HBx.out.keep kb)
      clear h0 hc hXY HL HN kb H0
      obtain ⟨ri, rx, ry, rp, rh, rm, ⟨ao, cap, gb, D⟩⟩ := r
      simp only at hc' hno
      obtain ⟨a0, a1, a2, a3, a4, a5, a6⟩ := hc'
      have MT := meant_any lo2 hi2 bx io ic I ri rx ry rp rh rm ao D.length cap wr B1.out.c0 B1.out.row B1.out.hs hI
      rw [hno] at MT
      have MT' := hideP MT
      clear MT hno
      go_wp2_with fail
      refine Calls.mono MT'.out ?_
      rintro e w1 ⟨rfl, k1⟩
      have HB1 := hideP (HB.out.trans (k1.mono hz))
      clear k1
      go_wp2
      go_roundw
      case rel => exact ⟨X ++ [⟨ri, rx, ry, rp, rh, rm, ⟨ao, cap, gb, D⟩⟩], Y, midW HXY.out, by simp, HB1.out⟩
      case measure => simp [intOf]; simp at hlen; omega
    | nil =>
      have hX : X = X0 := by simpa using hXY
      subst hX
      have h0 := HL.out
      obtain ⟨g, rfl, g1, g2, hc, _⟩ := SpV.at h0
      have hc' := (hc.keep kb (by omega)).pane
      have hgl : g < wr.heap.size := by omega
      have hno := H0.out
      have B1 := hideP (HBx.out.keep kb)
      clear hXY HL HN H0 h0 hc hlen kb
      obtain ⟨ri, rx, ry, rp, rh, rm, ⟨ao, cap, gb, D⟩⟩ := r0
      simp only at hc' hno
      obtain ⟨a0, a1, a2, a3, a4, a5, a6⟩ := hc'
      have MT := meant_any lo2 hi2 bx io ic I ri rx ry rp rh rm ao D.length cap wr B1.out.c0 B1.out.row B1.out.hs hI
      rw [hno] at MT
      have MT' := hideP MT
      clear MT hno
      go_wp2_with fail
      refine Calls.mono MT'.out ?_
      rintro e w1 ⟨rfl, k1⟩
      have HB1 := hideP (HB.out.trans (k1.mono hz))
      clear k1
      go_wp2
      go_returns
      exact ⟨rfl, HB1.out⟩
end Go.Proofs.Ytejgcheddloffaa
