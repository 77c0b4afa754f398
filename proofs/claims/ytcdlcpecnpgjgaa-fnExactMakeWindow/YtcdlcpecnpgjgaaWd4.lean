/- Panes taken out: the library's IndexFunc and DeleteFunc. -/
import Derived.Test.YtcdlcpecnpgjgaaWd3
namespace Go.Proofs.Ytcdlcpecnpgjgaa
open Go.RowKit Go.Maps
set_option linter.unusedVariables false

/-- What is taken out is told in a box of its own. -/
structure Box1 (w : World) (bx lo hi : Nat) (io : Option Addr) (ic : Nat) (I : List Int) : Prop where
  c0 : w.cell? ⟨bx, 0, none⟩ = some (.slice io I.length ic)
  row : Row .i64 w lo hi io I
  hs : hi ≤ w.heap.size
theorem Box1.keep {w w' : World} {bx lo hi ic : Nat} {io : Option Addr} {I : List Int} (h : Box1 w bx lo hi io ic I) (k : Below w.heap.size w w') : Box1 w' bx lo hi io ic I :=
  ⟨(k.cell (p := ⟨bx, 0, none⟩) (World.block_lt_of_cell? w _ h.c0)).trans h.c0, h.row.keep k h.hs, Nat.le_trans h.hs k.size⟩
theorem Box1.far {w w' : World} {bx lo hi ic g : Nat} {io : Option Addr} {I : List Int} (h : Box1 w bx lo hi io ic I) (f : Far g (g + 1) w w') (h1 : bx ≠ g) (h2 : hi ≤ g ∨ g < lo) : Box1 w' bx lo hi io ic I :=
  ⟨(f.cell bx 0 (World.block_lt_of_cell? w _ h.c0) (by omega)).trans h.c0, h.row.far f (by omega) h.hs, Nat.le_trans h.hs f.size⟩
theorem Box1.lt {w : World} {bx lo hi ic : Nat} {io : Option Addr} {I : List Int} (h : Box1 w bx lo hi io ic I) : bx < w.heap.size := World.block_lt_of_cell? w _ h.c0

set_option maxRecDepth 100000 in
set_option maxHeartbeats 1000000 in
theorem ixF_none (bx lo hi lo2 hi2 : Nat) (io : Option Addr) (ic : Nat) (I : List Int) (so : Option Addr) (sc : Nat) (L : List Wn) (w : World) (hB : Box1 w bx lo2 hi2 io ic I) (hI : I.length ≤ 1048576) (hL : SpV Wn.pals w lo hi so L) (hs : hi ≤ w.heap.size) (hn : L.length ≤ 1048576) (h : ∀ v ∈ L, hasI I v.i = false) :
    Calls Try.prog 103 #[.slice so L.length sc, .func (.func 92) #[] #[.pointer (some ⟨bx, 0, none⟩)]] w fun e w' => e = .returned (.int .i64 (-1)) ∧ Below w.heap.size w w' := by
  have hn' : (L.length : Int) ≤ 1048576 := by omega
  have HL := hideP hL
  have HN := hideP h
  have HBx := hideP hB
  clear hL h hB
  go_enter Try.func103, Try.ntmps103
  go_wp2
  go_loopw [8] (fun i wr => ∃ X Y : List Wn, X ++ Y = L ∧ i = .int .i64 (X.length : Nat) ∧ Below w.heap.size w wr) (fun i _ => L.length - (intOf i).toNat)
  case atStart => exact ⟨[], L, rfl, rfl, Below.refl _ _⟩
  case round =>
    obtain ⟨X, Y, hXY, rfl, kb⟩ := hrel
    have hlen : X.length + Y.length = L.length := by rw [← hXY]; simp
    have hz := kb.size
    have HB := hideP kb
    cases Y with
    | cons r Y =>
      have hlt : (X.length : Int) < (L.length : Int) := by simp at hlen; omega
      have h0 := HL.out
      rw [← hXY] at h0
      obtain ⟨g, rfl, g1, g2, hc, _⟩ := SpV.at h0
      have hc' := (hc.keep kb (by omega)).pane
      have hgl : g < wr.heap.size := by omega
      have hno := HN.out r (by rw [← hXY]; simp)
      have HXY := hideP hXY
      have B1 := hideP (HBx.out.keep kb)
      clear h0 hc hXY hlen HL HN kb
      obtain ⟨ri, rx, ry, rp, rh, rm, ⟨ao, cap, gb, D⟩⟩ := r
      simp only at hc' hno
      obtain ⟨a0, a1, a2, a3, a4, a5, a6⟩ := hc'
      have MT := meant_any lo2 hi2 bx io ic I ri rx ry rp rh rm ao D.length cap wr B1.out.c0 B1.out.row B1.out.hs hI
      rw [hno] at MT
      have MT' := hideP MT
      clear MT hno
      go_wp2_with fail
      refine Calls.mono MT'.out ?_
      rintro e w1 ⟨rfl, k1⟩
      have HB1 := hideP (HB.out.trans (k1.mono hz))
      clear k1
      go_wp2
      go_roundw
      case rel => exact ⟨X ++ [⟨ri, rx, ry, rp, rh, rm, ⟨ao, cap, gb, D⟩⟩], Y, midW HXY.out, by simp, HB1.out⟩
      case measure => simp [intOf]; omega
    | nil =>
      have hX : X = L := by simpa using hXY
      subst hX
      clear hXY HL HN hlen kb
      go_wp2
      go_returns
      exact ⟨rfl, HB.out⟩

set_option maxRecDepth 100000 in
set_option maxHeartbeats 1000000 in
theorem ixF_some (bx lo hi lo2 hi2 : Nat) (io : Option Addr) (ic : Nat) (I : List Int) (so : Option Addr) (sc : Nat) (X0 Y0 : List Wn) (r0 : Wn) (n : Nat) (w : World) (hB : Box1 w bx lo2 hi2 io ic I) (hI : I.length ≤ 1048576) (hL : SpV Wn.pals w lo hi so (X0 ++ r0 :: Y0)) (hs : hi ≤ w.heap.size) (hnn : (X0 ++ r0 :: Y0).length = n) (hn : n ≤ 1048576) (h : ∀ v ∈ X0, hasI I v.i = false) (h0 : hasI I r0.i = true) :
    Calls Try.prog 103 #[.slice so n sc, .func (.func 92) #[] #[.pointer (some ⟨bx, 0, none⟩)]] w fun e w' => e = .returned (.int .i64 (X0.length : Nat)) ∧ Below w.heap.size w w' := by
  have hn' : (n : Int) ≤ 1048576 := by omega
  have hXn : (X0.length : Int) < (n : Int) := by rw [← hnn]; simp; omega
  have HL := hideP hL
  have HN := hideP h
  have H0 := hideP h0
  have HBx := hideP hB
  clear hL h hB h0 hnn
  go_enter Try.func103, Try.ntmps103
  go_wp2
  go_loopw [8] (fun i wr => ∃ X Y : List Wn, X ++ Y = X0 ∧ i = .int .i64 (X.length : Nat) ∧ Below w.heap.size w wr) (fun i _ => n - (intOf i).toNat)
  case atStart => exact ⟨[], X0, rfl, rfl, Below.refl _ _⟩
  case round =>
    obtain ⟨X, Y, hXY, rfl, kb⟩ := hrel
    have hlen : X.length + Y.length = X0.length := by rw [← hXY]; simp
    have hlt : (X.length : Int) < (n : Int) := by omega
    have hz := kb.size
    have HB := hideP kb
    cases Y with
    | cons r Y =>
      have h0 := HL.out
      rw [← hXY] at h0
      simp only [List.append_assoc, List.cons_append] at h0
      obtain ⟨g, rfl, g1, g2, hc, _⟩ := SpV.at h0
      have hc' := (hc.keep kb (by omega)).pane
      have hgl : g < wr.heap.size := by omega
      have hno := HN.out r (by rw [← hXY]; simp)
      have HXY := hideP hXY
      have B1 := hideP (HBx.out.keep kb)
      clear h0 hc hXY HL HN kb H0
      obtain ⟨ri, rx, ry, rp, rh, rm, ⟨ao, cap, gb, D⟩⟩ := r
      simp only at hc' hno
      obtain ⟨a0, a1, a2, a3, a4, a5, a6⟩ := hc'
      have MT := meant_any lo2 hi2 bx io ic I ri rx ry rp rh rm ao D.length cap wr B1.out.c0 B1.out.row B1.out.hs hI
      rw [hno] at MT
      have MT' := hideP MT
      clear MT hno
      go_wp2_with fail
      refine Calls.mono MT'.out ?_
      rintro e w1 ⟨rfl, k1⟩
      have HB1 := hideP (HB.out.trans (k1.mono hz))
      clear k1
      go_wp2
      go_roundw
      case rel => exact ⟨X ++ [⟨ri, rx, ry, rp, rh, rm, ⟨ao, cap, gb, D⟩⟩], Y, midW HXY.out, by simp, HB1.out⟩
      case measure => simp [intOf]; simp at hlen; omega
    | nil =>
      have hX : X = X0 := by simpa using hXY
      subst hX
      have h0 := HL.out
      obtain ⟨g, rfl, g1, g2, hc, _⟩ := SpV.at h0
      have hc' := (hc.keep kb (by omega)).pane
      have hgl : g < wr.heap.size := by omega
      have hno := H0.out
      have B1 := hideP (HBx.out.keep kb)
      clear hXY HL HN H0 h0 hc hlen kb
      obtain ⟨ri, rx, ry, rp, rh, rm, ⟨ao, cap, gb, D⟩⟩ := r0
      simp only at hc' hno
      obtain ⟨a0, a1, a2, a3, a4, a5, a6⟩ := hc'
      have MT := meant_any lo2 hi2 bx io ic I ri rx ry rp rh rm ao D.length cap wr B1.out.c0 B1.out.row B1.out.hs hI
      rw [hno] at MT
      have MT' := hideP MT
      clear MT hno
      go_wp2_with fail
      refine Calls.mono MT'.out ?_
      rintro e w1 ⟨rfl, k1⟩
      have HB1 := hideP (HB.out.trans (k1.mono hz))
      clear k1
      go_wp2
      go_returns
      exact ⟨rfl, HB1.out⟩
end Go.Proofs.Ytcdlcpecnpgjgaa
