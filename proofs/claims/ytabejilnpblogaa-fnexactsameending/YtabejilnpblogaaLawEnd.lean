/-
  The law of SameEnding: at every two endings it answers true.
-/
import Derived.Test.YtabejilnpblogaaEndS
import Derived.Test.YtabejilnpblogaaOpenEnd
namespace Go.Proofs.Ytabejilnpblogaa
open Go.RowKit

/-- The blocks of two struct parameters. -/
structure Duo (w : World) (o p : Obj) (W : World) : Prop where
  x : Box w o W
  y : Box (w.alloc o) p W
theorem Duo.first (w : World) (o p : Obj) : Duo w o p ((w.alloc o).alloc p) := ⟨(Box.first _ _).alloc _, Box.first _ _⟩
theorem Duo.next {w W W' : World} {o p : Obj} (h : Duo w o p W) (hb : Below W.heap.size W W') : Duo w o p W' := ⟨h.x.next hb, h.y.next hb⟩
theorem Duo.alloc {w W : World} {o p : Obj} (h : Duo w o p W) (q : Obj) : Duo w o p (W.alloc q) := ⟨h.x.alloc q, h.y.alloc q⟩
theorem Duo.below {w W : World} {o p : Obj} (h : Duo w o p W) : Below w.heap.size w W := h.x.below
theorem Duo.lt {w W : World} {o p : Obj} (h : Duo w o p W) : w.heap.size + 1 < W.heap.size := by have := h.y.lt; simpa using this
theorem Duo.drew {w W : World} {o p : Obj} (h : Duo w o p W) : Duo w o p W.drew := ⟨h.x.drew, h.y.drew⟩
theorem Duo.cx {w W : World} {cs : Array Value} {T : TypeId} {fr : Nat × Nat} {p : Obj} (h : Duo w (.cells cs T fr) p W) (j : Nat) : W.cell? ⟨w.heap.size, j, none⟩ = cs[j]? := h.x.cell j
theorem Duo.cy {w W : World} {cs : Array Value} {T : TypeId} {fr : Nat × Nat} {o : Obj} (h : Duo w o (.cells cs T fr) W) (j : Nat) : W.cell? ⟨w.heap.size + 1, j, none⟩ = cs[j]? := by
  have := h.y.cell j
  simpa using this

theorem Duo.four2 {w W : World} {a0 a1 b0 b1 : Value} {T U : TypeId} {f r : Nat × Nat} (h : Duo w (.cells #[a0, a1] T f) (.cells #[b0, b1] U r) W) : (W.cell? ⟨w.heap.size, 0, none⟩ = some a0 ∧ W.cell? ⟨w.heap.size, 1, none⟩ = some a1) ∧ W.cell? ⟨w.heap.size + 1, 0, none⟩ = some b0 ∧ W.cell? ⟨w.heap.size + 1, 1, none⟩ = some b1 :=
  ⟨⟨h.cx 0, h.cx 1⟩, h.cy 0, h.cy 1⟩

set_option maxRecDepth 100000 in
set_option maxHeartbeats 6400000 in
theorem lawEnd (a0 : Value) (p : En) (b0 : Value) (q : En) (w : World) (hp : RowI w w.heap.size a0 p.out ∧ okEn p) (hq : RowI w w.heap.size b0 q.out ∧ okEn q) :
    Calls Try.prog 5 #[.agg #[a0, .int .i64 p.stop], .agg #[b0, .int .i64 q.stop]] w fun e w' => e = .returned (.bool true) ∧ Below w.heap.size w w' := by
  obtain ⟨s0, hs0⟩ : ∃ s, Hid (p.stop = s) := ⟨_, (rfl : p.stop = p.stop)⟩
  obtain ⟨s1, hs1⟩ : ∃ s, Hid (q.stop = s) := ⟨_, (rfl : q.stop = q.stop)⟩
  have cZ : Hid (∀ W, Below w.heap.size w W → Calls Try.prog 35 #[.agg #[a0, .int .i64 s0], .int .i64 1048576] W fun e w' => (∃ r : Int, e = .returned (.int .i64 r) ∧ (r = -1 ∨ (0 ≤ r ∧ r + (szEn p : Int) = 1048576))) ∧ Below W.heap.size W w') := fun W hW => by
    have := szEnding_sum w.heap.size p a0 1048576 W hW.size (hp.1.keep hW) hp.2 (by omega) (by omega)
    rwa [hs0.out] at this
  have cY : Hid (∀ W (left : Int), 0 ≤ left → left ≤ 1048576 → Below w.heap.size w W → Calls Try.prog 35 #[.agg #[b0, .int .i64 s1], .int .i64 left] W fun e w' => (∃ r : Int, e = .returned (.int .i64 r) ∧ (r = -1 ∨ (0 ≤ r ∧ r + (szEn q : Int) = left))) ∧ Below W.heap.size W w') := fun W left h0 h1 hW => by
    have := szEnding_sum w.heap.size q b0 left W hW.size (hq.1.keep hW) hq.2 h0 h1
    rwa [hs1.out] at this
  have HP : Hid (RowI w w.heap.size a0 p.out ∧ RowI w w.heap.size b0 q.out) := ⟨hp.1, hq.1⟩
  rw [hs0.out, hs1.out]
  clear hp hq
  go_enter Try.func5, Try.ntmps5
  go_wp2_with fail
  go_at_call 35
  refine Calls.mono (cZ.out _ (by go_grown)) ?_
  rintro e w1 ⟨⟨r, rfl, hr⟩, hb⟩
  have B1 : Hid (Duo w (.cells #[a0, .int .i64 s0] 52) (.cells #[b0, .int .i64 s1] 52) w1) := (Duo.first _ _ _).next hb
  clear cZ hb
  rcases hr with rfl | ⟨hr0, hr1⟩
  · go_wp2
    go_ret
    exact ⟨rfl, B1.out.below⟩
  have hrn : ¬ r < 0 := by omega
  have y0 := B1.out.cy 0
  have y1 := B1.out.cy 1
  simp at y0 y1
  go_wp2_with fail
  go_at_call 35
  refine Calls.mono (cY.out _ r hr0 (by omega) B1.out.below) ?_
  rintro e w2 ⟨⟨s, rfl, hs⟩, hb⟩
  have B2 : Hid (Duo w (.cells #[a0, .int .i64 s0] 52) (.cells #[b0, .int .i64 s1] 52) w2) := B1.out.next hb
  clear cY hb y0 y1 B1
  rcases hs with rfl | ⟨hs0', hs1'⟩
  · go_wp2
    go_ret
    exact ⟨rfl, B2.out.below⟩
  have hsn : ¬ s < 0 := by omega
  have hl : szEn p ≤ 1048576 := by omega
  have hl2 : szEn q ≤ 1048576 := by omega
  have HL : Hid (szEn p ≤ 1048576 ∧ szEn q ≤ 1048576) := ⟨hl, hl2⟩
  obtain ⟨N0, H0⟩ : ∃ K, Hid (p.out.length = K) := ⟨_, (rfl : p.out.length = p.out.length)⟩
  obtain ⟨M0, G0⟩ : ∃ K, Hid (q.out.length = K) := ⟨_, (rfl : q.out.length = q.out.length)⟩
  have cT : Hid (∀ W, Below w.heap.size w W → Calls Try.prog 37 #[.agg #[a0, .int .i64 s0]] W fun e w' => ∃ g c, e = .returned (.agg #[.slice (some ⟨g, 0, none⟩) N0 c, .int .i64 s0]) ∧ RowI w' w'.heap.size (.slice (some ⟨g, 0, none⟩) N0 c) p.out ∧ Below W.heap.size W w') := fun W hW => by
    have := toEnding_any w.heap.size p a0 W hW.size (HP.out.1.keep hW) hl
    rw [hs0.out, H0.out] at this
    refine this.mono ?_
    rintro e w' ⟨g, c, rfl, ho, hb⟩
    exact ⟨g, c, rfl, OwnsI.row ho, hb⟩
  have cU : Hid (∀ W, Below w.heap.size w W → Calls Try.prog 37 #[.agg #[b0, .int .i64 s1]] W fun e w' => ∃ g c, e = .returned (.agg #[.slice (some ⟨g, 0, none⟩) M0 c, .int .i64 s1]) ∧ RowI w' w'.heap.size (.slice (some ⟨g, 0, none⟩) M0 c) q.out ∧ Below W.heap.size W w') := fun W hW => by
    have := toEnding_any w.heap.size q b0 W hW.size (HP.out.2.keep hW) hl2
    rw [hs1.out, G0.out] at this
    refine this.mono ?_
    rintro e w' ⟨g, c, rfl, ho, hb⟩
    exact ⟨g, c, rfl, OwnsI.row ho, hb⟩
  obtain ⟨z, hz⟩ : ∃ z : Bool, Hid (z = true ↔ (p.stop = q.stop ∧ p.out = q.out)) := ⟨decide (p.stop = q.stop ∧ p.out = q.out), (by simp : decide (p.stop = q.stop ∧ p.out = q.out) = true ↔ _)⟩
  have cS : Hid (∀ W v0 u0, RowI W W.heap.size v0 p.out → RowI W W.heap.size u0 q.out → Calls Try.prog 36 #[.agg #[v0, .int .i64 s0], .agg #[u0, .int .i64 s1]] W fun e w' => e = .returned (.bool z) ∧ Below W.heap.size W w') := fun W v0 u0 h h2 => by
    have := specSameEnding_any v0 u0 p q z W h h2 HL.out.1 HL.out.2 hz.out
    rwa [hs0.out, hs1.out] at this
  have cI : Hid (∀ W v0 u0, RowI W W.heap.size v0 p.out → RowI W W.heap.size u0 q.out → Calls Try.prog 38 #[.agg #[v0, .int .i64 s0], .agg #[u0, .int .i64 s1]] W fun e w' => e = .returned (.bool z) ∧ Below W.heap.size W w') := fun W v0 u0 h h2 => by
    have := implSameEnding_any v0 u0 p q z W h h2 HL.out.1 HL.out.2 hz.out
    rwa [hs0.out, hs1.out] at this
  have cE : Hid (∀ W v0 u0, RowI W W.heap.size v0 p.out → RowI W W.heap.size u0 p.out → Calls Try.prog 39 #[.agg #[v0, .int .i64 s0], .agg #[u0, .int .i64 s0]] W fun e w' => e = .returned (.bool true) ∧ Below W.heap.size W w') := fun W v0 u0 h h2 => by
    have := eqEnding_same W.heap.size p v0 u0 W (Nat.le_refl _) h h2 HL.out.1
    rwa [hs0.out] at this
  have cF : Hid (∀ W v0 u0, RowI W W.heap.size v0 q.out → RowI W W.heap.size u0 q.out → Calls Try.prog 39 #[.agg #[v0, .int .i64 s1], .agg #[u0, .int .i64 s1]] W fun e w' => e = .returned (.bool true) ∧ Below W.heap.size W w') := fun W v0 u0 h h2 => by
    have := eqEnding_same W.heap.size q v0 u0 W (Nat.le_refl _) h h2 HL.out.2
    rwa [hs1.out] at this
  clear hl hl2 hr0 hr1 hs0' hs1'
  have x0 := B2.out.cx 0
  have x1 := B2.out.cx 1
  have y0 := B2.out.cy 0
  have y1 := B2.out.cy 1
  simp at x0 x1 y0 y1
  go_wp2_with fail
  go_region_held3 (fun w' => (w'.cell? ⟨w.heap.size, 0, none⟩ = some a0 ∧ w'.cell? ⟨w.heap.size, 1, none⟩ = some (.int .i64 s0)) ∧ w'.cell? ⟨w.heap.size + 1, 0, none⟩ = some b0 ∧ w'.cell? ⟨w.heap.size + 1, 1, none⟩ = some (.int .i64 s1)) (first | exact DC.four2 | exact DB.four2 | exact DA.four2 | exact B2.out.drew.four2) (first | (have _z := DB; go_at_call 36; refine Calls.mono (cS.out _ _ _ ((hoA.keep hbB).up hbB.size) hoB) ?_; rintro e wC ⟨rfl, hbC⟩; have DC := DB.next hbC) | (have _z := DA; go_at_call 37; refine Calls.mono (cU.out _ DA.below) ?_; rintro e wB ⟨gB, cB, rfl, hoB, hbB⟩; have DB := DA.next hbB) | (go_at_call 37; refine Calls.mono (cT.out _ B2.out.drew.below) ?_; rintro e wA ⟨gA, cA, rfl, hoA, hbA⟩; have DA := B2.out.drew.next hbA))
  have B3 : Hid (Duo w (.cells #[a0, .int .i64 s0] 52) (.cells #[b0, .int .i64 s1] 52) wC) := DC
  clear DA DB DC hbA hbB hbC hoA hoB B2 x0 x1 y0 y1 cS
  have x0 := B3.out.cx 0
  have x1 := B3.out.cx 1
  simp at x0 x1
  go_wp2_with fail
  go_at_call 37
  refine Calls.mono (cT.out _ B3.out.below) ?_
  rintro e w4 ⟨g2, c2, rfl, ho, hb⟩
  have B4 : Hid (Duo w (.cells #[a0, .int .i64 s0] 52) (.cells #[b0, .int .i64 s1] 52) w4) := B3.out.next hb
  have R4 : Hid (RowI w4 w4.heap.size (.slice (some ⟨g2, 0, none⟩) N0 c2) p.out) := ho
  clear hb B3 x0 x1 ho
  have y0 := B4.out.cy 0
  have y1 := B4.out.cy 1
  simp at y0 y1
  have hd4 := B4.out.lt
  go_wp2_with fail
  go_at_call 37
  refine Calls.mono (cU.out _ (B4.out.alloc _).below) ?_
  rintro e w5 ⟨g3, c3, rfl, ho, hb⟩
  have B5 : Hid (Duo w (.cells #[a0, .int .i64 s0] 52) (.cells #[b0, .int .i64 s1] 52) w5) := (B4.out.alloc _).next hb
  have X5 : Hid (Box w4 (.cells #[.slice (some ⟨g2, 0, none⟩) N0 c2, .int .i64 s0] 55) w5) := (Box.first _ _).next hb
  have R5 : Hid (RowI w5 w5.heap.size (.slice (some ⟨g2, 0, none⟩) N0 c2) p.out ∧ RowI w5 w5.heap.size (.slice (some ⟨g3, 0, none⟩) M0 c3) q.out) := ⟨(R4.out.keep X5.out.below).up (Nat.le_of_lt X5.out.lt), ho⟩
  clear hb ho B4 R4 y0 y1 hd4
  have z0 := X5.out.cell 0
  have z1 := X5.out.cell 1
  simp at z0 z1
  have hlt5 := X5.out.lt
  go_wp2_with fail
  go_at_call 38
  refine Calls.mono (cI.out _ _ _ ((R5.out.1.keep ((Below.refl _ _).alloc (Nat.le_refl _) _)).up (by simp)) ((R5.out.2.keep ((Below.refl _ _).alloc (Nat.le_refl _) _)).up (by simp))) ?_
  rintro e w6 ⟨rfl, hb⟩
  have B6 : Hid (Duo w (.cells #[a0, .int .i64 s0] 52) (.cells #[b0, .int .i64 s1] 52) w6) := (B5.out.alloc _).next hb
  have X6 : Hid (Box w4 (.cells #[.slice (some ⟨g2, 0, none⟩) N0 c2, .int .i64 s0] 55) w6) := (X5.out.alloc _).next hb
  have Y6 : Hid (Box w5 (.cells #[.slice (some ⟨g3, 0, none⟩) M0 c3, .int .i64 s1] 55) w6) := (Box.first _ _).next hb
  have R6 : Hid (RowI w6 w5.heap.size (.slice (some ⟨g2, 0, none⟩) N0 c2) p.out ∧ RowI w6 w5.heap.size (.slice (some ⟨g3, 0, none⟩) M0 c3) q.out) := ⟨R5.out.1.keep Y6.out.below, R5.out.2.keep Y6.out.below⟩
  clear hb B5 X5 R5 cI z0 z1
  have z0 : w6.cell? ⟨w4.heap.size, 0, none⟩ = some (.slice (some ⟨g2, 0, none⟩) N0 c2) := X6.out.cell 0
  have z1 : w6.cell? ⟨w4.heap.size, 1, none⟩ = some (.int .i64 s0) := X6.out.cell 1
  have x0 : w6.cell? ⟨w.heap.size, 0, none⟩ = some a0 := B6.out.cx 0
  have x1 : w6.cell? ⟨w.heap.size, 1, none⟩ = some (.int .i64 s0) := B6.out.cx 1
  have hz5 : w5.heap.size ≤ w6.heap.size := Nat.le_of_lt Y6.out.lt
  go_wp2_with fail
  go_region_held3 (fun w' => (w'.cell? ⟨w4.heap.size, 0, none⟩ = some (.slice (some ⟨g2, 0, none⟩) N0 c2) ∧ w'.cell? ⟨w4.heap.size, 1, none⟩ = some (.int .i64 s0)) ∧ w'.cell? ⟨w.heap.size, 0, none⟩ = some a0 ∧ w'.cell? ⟨w.heap.size, 1, none⟩ = some (.int .i64 s0)) (first | exact ⟨⟨XB.cell 0, XB.cell 1⟩, DB.cx 0, DB.cx 1⟩ | exact ⟨⟨XA.cell 0, XA.cell 1⟩, DA.cx 0, DA.cx 1⟩ | exact ⟨⟨X6.out.drew.cell 0, X6.out.drew.cell 1⟩, B6.out.drew.cx 0, B6.out.drew.cx 1⟩) (first | (go_at_call 37; refine Calls.mono (cT.out _ B6.out.drew.below) ?_; rintro e wA ⟨gA, cA, rfl, hoA, hbA⟩; have DA := B6.out.drew.next hbA; have XA := X6.out.drew.next hbA) | (go_at_call 39; refine Calls.mono (cE.out wA _ _ ((R6.out.1.keep ((Below.refl _ _).drew.trans (hbA.mono hz5))).up (Nat.le_trans hz5 hbA.size)) hoA) ?_; rintro e wB ⟨rfl, hbB⟩; have DB := DA.next hbB; have XB := XA.next hbB))
  have HB7 : Hid (Below w6.heap.size w6 wB) := (Below.refl _ _).drew.trans (hbA.trans (hbB.mono hbA.size))
  clear DA DB XA XB hbA hbB hoA z0 z1 x0 x1
  have B7 : Hid (Duo w (.cells #[a0, .int .i64 s0] 52) (.cells #[b0, .int .i64 s1] 52) wB) := B6.out.next HB7.out
  have Y7 : Hid (Box w5 (.cells #[.slice (some ⟨g3, 0, none⟩) M0 c3, .int .i64 s1] 55) wB) := Y6.out.next HB7.out
  have R7 : Hid (RowI wB w5.heap.size (.slice (some ⟨g3, 0, none⟩) M0 c3) q.out) := R6.out.2.keep (HB7.out.mono hz5)
  have hz7 : w5.heap.size ≤ wB.heap.size := Nat.le_of_lt Y7.out.lt
  clear B6 X6 Y6 R6 HB7
  have z0 : wB.cell? ⟨w5.heap.size, 0, none⟩ = some (.slice (some ⟨g3, 0, none⟩) M0 c3) := Y7.out.cell 0
  have z1 : wB.cell? ⟨w5.heap.size, 1, none⟩ = some (.int .i64 s1) := Y7.out.cell 1
  have x0 : wB.cell? ⟨w.heap.size + 1, 0, none⟩ = some b0 := B7.out.cy 0
  have x1 : wB.cell? ⟨w.heap.size + 1, 1, none⟩ = some (.int .i64 s1) := B7.out.cy 1
  go_wp2_with fail
  go_region_held3 (fun w' => (w'.cell? ⟨w5.heap.size, 0, none⟩ = some (.slice (some ⟨g3, 0, none⟩) M0 c3) ∧ w'.cell? ⟨w5.heap.size, 1, none⟩ = some (.int .i64 s1)) ∧ w'.cell? ⟨w.heap.size + 1, 0, none⟩ = some b0 ∧ w'.cell? ⟨w.heap.size + 1, 1, none⟩ = some (.int .i64 s1)) (first | exact ⟨⟨YD.cell 0, YD.cell 1⟩, DD.cy 0, DD.cy 1⟩ | exact ⟨⟨YC.cell 0, YC.cell 1⟩, DC.cy 0, DC.cy 1⟩ | exact ⟨⟨Y7.out.drew.cell 0, Y7.out.drew.cell 1⟩, B7.out.drew.cy 0, B7.out.drew.cy 1⟩) (first | (go_at_call 37; refine Calls.mono (cU.out _ B7.out.drew.below) ?_; rintro e wC ⟨gC, cC, rfl, hoC, hbC⟩; have DC := B7.out.drew.next hbC; have YC := Y7.out.drew.next hbC) | (go_at_call 39; refine Calls.mono (cF.out wC _ _ ((R7.out.keep ((Below.refl _ _).drew.trans (hbC.mono hz7))).up (Nat.le_trans hz7 hbC.size)) hoC) ?_; rintro e wD ⟨rfl, hbD⟩; have DD := DC.next hbD; have YD := YC.next hbD))
  have HB9 : Hid (Below w.heap.size w wD) := DD.below
  clear DC DD YC YD hbC hbD hoC z0 z1 x0 x1
  go_wp2
  go_ret
  exact ⟨rfl, HB9.out⟩

end Go.Proofs.Ytabejilnpblogaa
