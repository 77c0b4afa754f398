/- The program's line: pushed to, told as a queue. -/
import Derived.Test.YtefkngpceeclhaaV17
import Derived.Test.YtefkngpceeclhaaV19
namespace Go.Proofs.Ytefkngpceeclhaa
open Go.RowKit
set_option linter.unusedVariables false
attribute [local go_sem] growUpon growAt

/-- A block whose first cell is a slice is no row of messages, and no body. -/
theorem OwnM.notBox {w : World} {base b : Nat} {so s : Option Addr} {sc n c : Nat} {L : List Mg} (h : OwnM w base so sc L) (hb : w.cell? ⟨b, 0, none⟩ = some (.slice s n c)) : some b ≠ Value.ownBlock (.slice so L.length sc) := by
  intro e
  by_cases hL : L = []
  · have hz := h.z hL
    subst hL hz
    rcases h.row.2 with ⟨hv, _⟩ | ⟨g, cap', cur, hv, _, hc, _, _, hsz, hcs⟩
    · rw [hv] at e; simp [Value.ownBlock] at e
    · simp only [Value.slice.injEq] at hv
      obtain ⟨rfl, _, rfl⟩ := hv
      simp only [Value.ownBlock, Option.some.injEq] at e
      rw [e] at hb
      have : cur = #[] := by simpa using hsz
      subst this
      simp [World.cell?, hc] at hb
  · rcases h.sp with h0 | ⟨g, ha, _, _, hc, _⟩
    · exact hL h0
    · subst ha
      simp only [Value.ownBlock, Option.some.injEq] at e
      have h0 := (hc 0 (List.length_pos_iff.2 hL)).c0
      rw [Nat.zero_mul, ← e, hb] at h0
      simp at h0
theorem Bods.notBox {w : World} {lo hi b : Nat} {bs : List Bd} {s : Option Addr} {n c : Nat} (h : Bods w lo hi bs) (hb : w.cell? ⟨b, 0, none⟩ = some (.slice s n c)) : ∀ d ∈ bs, d.L ≠ [] → d.g ≠ b := fun d m e e' => by
  obtain ⟨x, hx⟩ := d.cell0 (h.each d m) e
  rw [e', hb] at hx
  simp at hx
theorem Bods.setBox {w : World} {lo hi b o : Nat} {bs : List Bd} {s : Option Addr} {n c : Nat} {v : Value} (h : Bods w lo hi bs) (hb : w.cell? ⟨b, 0, none⟩ = some (.slice s n c)) : Bods (w.setCell ⟨b, o, none⟩ v) lo hi bs :=
  ⟨fun d m => Bd.on_set (h.each d m) _ _ (fun e e' => h.notBox hb d m e e'.symm), h.inn, h.apart⟩
theorem OwnM.setBox {w : World} {base b o : Nat} {so s : Option Addr} {sc n c : Nat} {L : List Mg} {v : Value} (h : OwnM w base so sc L) (hb : w.cell? ⟨b, 0, none⟩ = some (.slice s n c)) : OwnM (w.setCell ⟨b, o, none⟩ v) base so sc L := by
  have hg : w.grownBy (w.setCell ⟨b, o, none⟩ v) (some b) := ⟨rfl, rfl, rfl, by simp, fun q _ hq => Below.heap_setCell w _ v q (fun e => hq (by rw [e]))⟩
  refine ⟨World.ownsRow.kept h.row hg ?_, h.z⟩
  cases hv : Value.ownBlock (.slice so L.length sc) with
  | none => exact .inl rfl
  | some q => exact .inr fun e => h.notBox hb (by rw [hv]; exact e.symm)
theorem Lin.setBox {w : World} {base b o : Nat} {so s : Option Addr} {sc n c : Nat} {L : List Mg} {v : Value} (h : Lin w base so sc L) (hb : w.cell? ⟨b, 0, none⟩ = some (.slice s n c)) : Lin (w.setCell ⟨b, o, none⟩ v) base so sc L :=
  ⟨h.own.setBox hb, by have := h.bods.setBox (o := o) (v := v) hb; simpa using this⟩
theorem Rb.grown {w w' : World} {b : Nat} {v0 v1 : Value} {q : Option Nat} (h : Rb w b v0 v1) (hg : w.grownBy w' q) (hq : some b ≠ q) : Rb w' b v0 v1 := by
  have e := hg.block b h.lt hq
  exact ⟨(World.cell?_of_block (w := w) (a := ⟨b, 0, none⟩) e).trans h.c0, (World.cell?_of_block (w := w) (a := ⟨b, 1, none⟩) e).trans h.c1, (World.frozen?_of_block (w := w) (a := ⟨b, 0, none⟩) e).trans h.f0, (World.frozen?_of_block (w := w) (a := ⟨b, 1, none⟩) e).trans h.f1, Nat.lt_of_lt_of_le h.lt hg.size⟩
theorem Rb.set0 {w : World} {b : Nat} {v0 v1 : Value} (h : Rb w b v0 v1) (u : Value) : Rb (w.setCell ⟨b, 0, none⟩ u) b u v1 :=
  ⟨cell_set_same h.c0, (cell_set_other (by omega)).trans h.c1, by simpa using h.f0, by simpa using h.f1, by simpa using h.lt⟩
theorem Rb.set1 {w : World} {b : Nat} {v0 v1 : Value} (h : Rb w b v0 v1) (u : Value) : Rb (w.setCell ⟨b, 1, none⟩ u) b v0 u :=
  ⟨(cell_set_other (by omega)).trans h.c0, cell_set_same h.c1, by simpa using h.f0, by simpa using h.f1, by simpa using h.lt⟩
theorem Bods.left {w : World} {lo hi : Nat} {A B : List Bd} (h : Bods w lo hi (A ++ B)) : Bods w lo hi A :=
  ⟨fun b m => h.each b (by simp [m]), fun b m => h.inn b (by simp [m]), (List.pairwise_append.1 h.apart).1⟩

theorem bodyPost_panic {P : Program} {F : Func} {R : Ending → World → Prop} : ∀ c a d v w, bodyPost P F R (.panic c) (Act.put a d v) w → bodyPost P F R (.panic c) a w := by
  intro c a d v w h
  cases d <;> exact h

/-- What a push leaves, with so much room. -/
def psh (room : Int) (M : List Mg) (m : Mg) : List Mg := if room ≤ (M.length : Int) then M else M ++ [m]
def pshV (room : Int) (M : List Mg) (v : Bool) : Bool := if room ≤ (M.length : Int) then true else v
/-- A line in its box. -/
structure LBox (w : World) (b base : Nat) (M : List Mg) (v : Bool) (s : Option Addr) (c : Nat) : Prop where
  box : Rb w b (.slice s M.length c) (.bool v)
  lin : Lin w base s c M
theorem LBox.keep {w w' : World} {b base : Nat} {M : List Mg} {v : Bool} {s : Option Addr} {c : Nat} (h : LBox w b base M v s c) (k : Below w.heap.size w w') : LBox w' b base M v s c := ⟨h.box.keep k h.box.lt, h.lin.keep k⟩

set_option maxRecDepth 100000 in
set_option maxHeartbeats 1000000 in
theorem push_any (b base : Nat) (s : Option Addr) (c : Nat) (M : List Mg) (v : Bool) (m : Mg) (room : Int) (w : World) (hR : Rb w b (.slice s M.length c) (.bool v)) (hO : OwnM w base s c M) (hB : Bods w base w.heap.size ((M ++ [m]).map Mg.b)) (hb : base ≤ b) (hn : M.length ≤ 1048576) :
    Calls Try.prog 75 #[.pointer (some ⟨b, 0, none⟩), .agg #[.int .i64 m.k, .slice m.b.ao m.b.L.length m.b.cap], .int .i64 room] w fun e w' => e = .returned (.tuple #[]) ∧ (∃ s' c', LBox w' b base (psh room M m) (pshV room M v) s' c') ∧ Below base w w' := by
  have hlt := hR.lt
  have HR := hideP hR
  have HO := hideP hO
  have HB := hideP hB
  clear hO hB
  by_cases h : room ≤ (M.length : Int)
  · obtain ⟨p0, p1, p2, p3, p4⟩ := hR
    have e1 : Hid (psh room M m = M) := hideP (by unfold psh; rw [if_pos h])
    have e2 : Hid (pshV room M v = true) := hideP (by unfold pshV; rw [if_pos h])
    go_enter Try.func75, Try.ntmps75
    go_wp2
    go_returns
    refine ⟨rfl, ⟨s, c, ?_⟩, ((Below.refl _ w).setCell (p := ⟨b, 1, none⟩) hb _).alloc (by simp; omega) _⟩
    rw [e1.out, e2.out]
    refine LBox.keep ⟨HR.out.set1 _, Lin.setBox ⟨HO.out, ?_⟩ HR.out.c0⟩ (kal3 _ _)
    have := HB.out
    rw [List.map_append] at this
    exact this.left
  · have e1 : Hid (psh room M m = M ++ [m]) := hideP (by unfold psh; rw [if_neg h])
    have e2 : Hid (pshV room M v = v) := hideP (by unfold pshV; rw [if_neg h])
    obtain ⟨p0, p1, p2, p3, p4⟩ := hR
    have h' : (M.length : Int) < room := by omega
    go_enter Try.func75, Try.ntmps75
    go_wp2
    clear p0 p1 p2 p3 p4
    have ka := kal3 w (.cells #[.int .i64 m.k, .slice m.b.ao m.b.L.length m.b.cap] 28)
    have R1 := hideP (HR.out.keep ka hlt)
    have Z1 := hideP (rb_new w (.int .i64 m.k) (.slice m.b.ao m.b.L.length m.b.cap) 28)
    have O1 := hideP (HO.out.keep ka)
    have B1 := hideP ((HB.out.keep ka (Nat.le_refl _)).wide (Nat.le_refl _) ka.size)
    have K1 : Hid (Below base w (w.alloc (.cells #[.int .i64 m.k, .slice m.b.ao m.b.L.length m.b.cap] 28))) := hideP (ka.mono (by omega))
    have n1 := ka.size
    clear ka HR HO HB
    generalize w.alloc (.cells #[.int .i64 m.k, .slice m.b.ao m.b.L.length m.b.cap] 28) = w1 at *
    obtain ⟨p0, p1, p2, p3, p4⟩ := R1.out
    obtain ⟨q0, q1, q2, q3, q4⟩ := Z1.out
    have ka := kal3 w1.drew (.cells #[.int .i64 m.k, .slice m.b.ao m.b.L.length m.b.cap] 28)
    have kd : Below w1.heap.size w1 (w1.drew.alloc (.cells #[.int .i64 m.k, .slice m.b.ao m.b.L.length m.b.cap] 28)) := ((Below.refl _ w1).drew).alloc (by simp) _
    have C3 : Hid (m.cells (w1.drew.alloc (.cells #[.int .i64 m.k, .slice m.b.ao m.b.L.length m.b.cap] 28)) w1.heap.size 0) := hideP ⟨(rb_new w1.drew (.int .i64 m.k) (.slice m.b.ao m.b.L.length m.b.cap) 28).c0, (rb_new w1.drew (.int .i64 m.k) (.slice m.b.ao m.b.L.length m.b.cap) 28).c1⟩
    have R3 := hideP (R1.out.keep kd R1.out.lt)
    have O3 := hideP (O1.out.keep kd)
    have B3 := hideP ((B1.out.keep kd (Nat.le_refl _)).wide (Nat.le_refl _) kd.size)
    have K3 := hideP (K1.out.trans (kd.mono (by omega)))
    have n3 := kd.size
    clear kd ka
    have q5 : w1.drew.cell? ⟨b, 0, none⟩ = some (.slice s M.length c) := p0
    have q6 : w1.drew.cell? ⟨w.heap.size, 0, none⟩ = some (.int .i64 m.k) := q0
    have q7 : w1.drew.cell? ⟨w.heap.size, 1, none⟩ = some (.slice m.b.ao m.b.L.length m.b.cap) := q1
    refine wp_region_held (S := fun _ => True) (by kernel_rfl) ?_
    show wpAnyH _ _ _ _ _ 11 (Array.replicate 11 false) _ w1.drew
    refine held_take (i := 0) rfl (by kernel_rfl) (by kernel_rfl) (by kernel_rfl) bodyPost_panic trivial (by rfl) ?_
    apply Exists.intro
    refine ⟨fun w1 k1 => ?_, fun K hK => ?_⟩
    · go_simp
      first | done | rfl
    go_simp
    refine hK _ ?_
    clear hK K
    refine held_take (i := 1) rfl (by kernel_rfl) (by kernel_rfl) (by kernel_rfl) bodyPost_panic trivial (by rfl) ?_
    apply Exists.intro
    refine ⟨fun w1 k1 => ?_, fun K hK => ?_⟩
    · go_simp
      first | done | rfl
    go_simp
    refine hK _ ?_
    clear hK K
    refine held_take (i := 2) rfl (by kernel_rfl) (by kernel_rfl) (by kernel_rfl) bodyPost_panic trivial (by rfl) ?_
    apply Exists.intro
    refine ⟨fun w1 k1 => ?_, fun K hK => ?_⟩
    · go_simp
      first | done | rfl
    go_simp
    refine hK _ ?_
    clear hK K
    refine held_take (i := 3) rfl (by kernel_rfl) (by kernel_rfl) (by kernel_rfl) bodyPost_panic trivial (by rfl) ?_
    apply Exists.intro
    refine ⟨fun w1 k1 => ?_, fun K hK => ?_⟩
    · go_simp
      first | done | rfl
    go_simp
    refine hK _ ?_
    clear hK K
    refine held_two (i := 4) (j := 5) rfl rfl (by kernel_rfl) (by rfl) (by rfl) ?_ ?_
    · refine wp_of_run (v := .slice s M.length c) (w' := w1.drew) (by go_simp; first | done | rfl) ?_
      refine ⟨trivial, ?_⟩
      refine norm_act fun K hK => ?_
      go_simp
      refine hK _ ?_
      clear hK K
      refine held_one (i := 5) rfl (by kernel_rfl) (by rfl) ?_
      refine wp_of_run (v := .agg #[.int .i64 m.k, .slice m.b.ao m.b.L.length m.b.cap]) (w' := w1.drew) (by go_simp; first | done | rfl) ?_
      refine ⟨trivial, ?_⟩
      refine norm_act fun K hK => ?_
      go_simp
      refine hK _ ?_
      clear hK K
      refine held_one (i := 6) rfl (by kernel_rfl) (by rfl) ?_
      refine wp_of_run (v := .slice (some ⟨w1.heap.size, 0, none⟩) 1 1) (w' := w1.drew.alloc (.cells #[.int .i64 m.k, .slice m.b.ao m.b.L.length m.b.cap] 28)) (by go_simp; first | done | rfl) ?_
      refine ⟨trivial, ?_⟩
      refine norm_act fun K hK => ?_
      go_simp
      refine hK _ ?_
      clear hK K
      clear p0 p1 p2 p3 p4 q0 q1 q2 q3 q4
      generalize w1.drew.alloc (.cells #[.int .i64 m.k, .slice m.b.ao m.b.L.length m.b.cap] 28) = w3 at *
      refine held_one (i := 7) rfl (by kernel_rfl) (by rfl) ?_
      refine wp_appM _ _ rfl base s c M (by rfl) O3.out w1.heap.size 1 m (by rfl) C3.out (by omega) (by omega) ?_
      intro s6 c6 w6 O6 G6 K6
      refine ⟨trivial, ?_⟩
      have LN6 := hideP (Lin.pushed O3.out B3.out O6 G6)
      have XX6 := hideP (R3.out.grown G6 (O3.out.notBox R3.out.c0))
      have KB6 := hideP (K3.out.trans K6)
      clear O6 G6 K6
      obtain ⟨p0, p1, p2, p3, p4⟩ := XX6.out
      refine norm_act fun K hK => ?_
      go_simp
      refine hK _ ?_
      clear hK K
      refine held_one (i := 8) rfl (by kernel_rfl) (by rfl) ?_
      refine wp_of_run (v := .pointer (some ⟨b, 0, none⟩)) (w' := w6) (by go_simp; first | done | rfl) ?_
      refine ⟨trivial, ?_⟩
      refine norm_act fun K hK => ?_
      go_simp
      refine hK _ ?_
      clear hK K
      refine held_one (i := 9) rfl (by kernel_rfl) (by rfl) ?_
      refine wp_of_run (v := .pointer (some ⟨b, 0, none⟩)) (w' := w6) (by go_simp; first | done | rfl) ?_
      refine ⟨trivial, ?_⟩
      refine norm_act fun K hK => ?_
      go_simp
      refine hK _ ?_
      clear hK K
      refine held_one (i := 10) rfl (by kernel_rfl) (by rfl) ?_
      refine wp_of_skip (w' := w6.setCell ⟨b, 0, none⟩ (.slice s6 (M.length + 1) c6)) (by go_simp; first | done | rfl) ?_
      refine ⟨trivial, ?_⟩
      refine norm_act fun K hK => ?_
      go_simp
      refine hK _ ?_
      clear hK K
      refine wpAnyH_done (by kernel_rfl) ?_ _
      clear p0 p1 p2 p3 p4
      go_wp2
      go_returns
      refine ⟨rfl, ⟨s6, c6, ?_⟩, KB6.out.setCell (p := ⟨b, 0, none⟩) hb _⟩
      rw [e1.out, e2.out]
      exact ⟨by rw [List.length_append]; exact XX6.out.set0 _, LN6.out.setBox XX6.out.c0⟩
    · refine wp_of_run (v := .agg #[.int .i64 m.k, .slice m.b.ao m.b.L.length m.b.cap]) (w' := w1.drew) (by go_simp; first | done | rfl) ?_
      refine ⟨trivial, ?_⟩
      refine norm_act fun K hK => ?_
      go_simp
      refine hK _ ?_
      clear hK K
      refine held_two (i := 4) (j := 6) rfl rfl (by kernel_rfl) (by rfl) (by rfl) ?_ ?_
      · refine wp_of_run (v := .slice s M.length c) (w' := w1.drew) (by go_simp; first | done | rfl) ?_
        refine ⟨trivial, ?_⟩
        refine norm_act fun K hK => ?_
        go_simp
        refine hK _ ?_
        clear hK K
        refine held_one (i := 6) rfl (by kernel_rfl) (by rfl) ?_
        refine wp_of_run (v := .slice (some ⟨w1.heap.size, 0, none⟩) 1 1) (w' := w1.drew.alloc (.cells #[.int .i64 m.k, .slice m.b.ao m.b.L.length m.b.cap] 28)) (by go_simp; first | done | rfl) ?_
        refine ⟨trivial, ?_⟩
        refine norm_act fun K hK => ?_
        go_simp
        refine hK _ ?_
        clear hK K
        clear p0 p1 p2 p3 p4 q0 q1 q2 q3 q4
        generalize w1.drew.alloc (.cells #[.int .i64 m.k, .slice m.b.ao m.b.L.length m.b.cap] 28) = w3 at *
        refine held_one (i := 7) rfl (by kernel_rfl) (by rfl) ?_
        refine wp_appM _ _ rfl base s c M (by rfl) O3.out w1.heap.size 1 m (by rfl) C3.out (by omega) (by omega) ?_
        intro s6 c6 w6 O6 G6 K6
        refine ⟨trivial, ?_⟩
        have LN6 := hideP (Lin.pushed O3.out B3.out O6 G6)
        have XX6 := hideP (R3.out.grown G6 (O3.out.notBox R3.out.c0))
        have KB6 := hideP (K3.out.trans K6)
        clear O6 G6 K6
        obtain ⟨p0, p1, p2, p3, p4⟩ := XX6.out
        refine norm_act fun K hK => ?_
        go_simp
        refine hK _ ?_
        clear hK K
        refine held_one (i := 8) rfl (by kernel_rfl) (by rfl) ?_
        refine wp_of_run (v := .pointer (some ⟨b, 0, none⟩)) (w' := w6) (by go_simp; first | done | rfl) ?_
        refine ⟨trivial, ?_⟩
        refine norm_act fun K hK => ?_
        go_simp
        refine hK _ ?_
        clear hK K
        refine held_one (i := 9) rfl (by kernel_rfl) (by rfl) ?_
        refine wp_of_run (v := .pointer (some ⟨b, 0, none⟩)) (w' := w6) (by go_simp; first | done | rfl) ?_
        refine ⟨trivial, ?_⟩
        refine norm_act fun K hK => ?_
        go_simp
        refine hK _ ?_
        clear hK K
        refine held_one (i := 10) rfl (by kernel_rfl) (by rfl) ?_
        refine wp_of_skip (w' := w6.setCell ⟨b, 0, none⟩ (.slice s6 (M.length + 1) c6)) (by go_simp; first | done | rfl) ?_
        refine ⟨trivial, ?_⟩
        refine norm_act fun K hK => ?_
        go_simp
        refine hK _ ?_
        clear hK K
        refine wpAnyH_done (by kernel_rfl) ?_ _
        clear p0 p1 p2 p3 p4
        go_wp2
        go_returns
        refine ⟨rfl, ⟨s6, c6, ?_⟩, KB6.out.setCell (p := ⟨b, 0, none⟩) hb _⟩
        rw [e1.out, e2.out]
        exact ⟨by rw [List.length_append]; exact XX6.out.set0 _, LN6.out.setBox XX6.out.c0⟩
      · refine wp_of_run (v := .slice (some ⟨w1.heap.size, 0, none⟩) 1 1) (w' := w1.drew.alloc (.cells #[.int .i64 m.k, .slice m.b.ao m.b.L.length m.b.cap] 28)) (by go_simp; first | done | rfl) ?_
        refine ⟨trivial, ?_⟩
        refine norm_act fun K hK => ?_
        go_simp
        refine hK _ ?_
        clear hK K
        have q8 := R3.out.c0
        refine held_one (i := 4) rfl (by kernel_rfl) (by rfl) ?_
        refine wp_of_run (v := .slice s M.length c) (w' := (w1.drew.alloc (.cells #[.int .i64 m.k, .slice m.b.ao m.b.L.length m.b.cap] 28))) (by go_simp; first | done | rfl) ?_
        refine ⟨trivial, ?_⟩
        refine norm_act fun K hK => ?_
        go_simp
        refine hK _ ?_
        clear hK K
        clear q8 p0 p1 p2 p3 p4 q0 q1 q2 q3 q4
        generalize w1.drew.alloc (.cells #[.int .i64 m.k, .slice m.b.ao m.b.L.length m.b.cap] 28) = w3 at *
        refine held_one (i := 7) rfl (by kernel_rfl) (by rfl) ?_
        refine wp_appM _ _ rfl base s c M (by rfl) O3.out w1.heap.size 1 m (by rfl) C3.out (by omega) (by omega) ?_
        intro s6 c6 w6 O6 G6 K6
        refine ⟨trivial, ?_⟩
        have LN6 := hideP (Lin.pushed O3.out B3.out O6 G6)
        have XX6 := hideP (R3.out.grown G6 (O3.out.notBox R3.out.c0))
        have KB6 := hideP (K3.out.trans K6)
        clear O6 G6 K6
        obtain ⟨p0, p1, p2, p3, p4⟩ := XX6.out
        refine norm_act fun K hK => ?_
        go_simp
        refine hK _ ?_
        clear hK K
        refine held_one (i := 8) rfl (by kernel_rfl) (by rfl) ?_
        refine wp_of_run (v := .pointer (some ⟨b, 0, none⟩)) (w' := w6) (by go_simp; first | done | rfl) ?_
        refine ⟨trivial, ?_⟩
        refine norm_act fun K hK => ?_
        go_simp
        refine hK _ ?_
        clear hK K
        refine held_one (i := 9) rfl (by kernel_rfl) (by rfl) ?_
        refine wp_of_run (v := .pointer (some ⟨b, 0, none⟩)) (w' := w6) (by go_simp; first | done | rfl) ?_
        refine ⟨trivial, ?_⟩
        refine norm_act fun K hK => ?_
        go_simp
        refine hK _ ?_
        clear hK K
        refine held_one (i := 10) rfl (by kernel_rfl) (by rfl) ?_
        refine wp_of_skip (w' := w6.setCell ⟨b, 0, none⟩ (.slice s6 (M.length + 1) c6)) (by go_simp; first | done | rfl) ?_
        refine ⟨trivial, ?_⟩
        refine norm_act fun K hK => ?_
        go_simp
        refine hK _ ?_
        clear hK K
        refine wpAnyH_done (by kernel_rfl) ?_ _
        clear p0 p1 p2 p3 p4
        go_wp2
        go_returns
        refine ⟨rfl, ⟨s6, c6, ?_⟩, KB6.out.setCell (p := ⟨b, 0, none⟩) hb _⟩
        rw [e1.out, e2.out]
        exact ⟨by rw [List.length_append]; exact XX6.out.set0 _, LN6.out.setBox XX6.out.c0⟩

set_option maxHeartbeats 400000 in
theorem queueOf_any (s : Option Addr) (n c : Nat) (v : Bool) (w : World) :
    Calls Try.prog 54 #[.agg #[.slice s n c, .bool v]] w fun e w' => e = .returned (.agg #[.slice s n c, .bool v]) ∧ Below w.heap.size w w' := by
  go_enter Try.func54, Try.ntmps54
  go_wp2
  refine bodyPost_ret (v := .agg #[.slice s n c, .bool v]) (by simp [results, Try.results54, go_sem, *]) rfl ⟨rfl, ?_⟩
  go_grown
end Go.Proofs.Ytefkngpceeclhaa
