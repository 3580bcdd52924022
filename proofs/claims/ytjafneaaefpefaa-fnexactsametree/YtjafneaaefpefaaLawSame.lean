/-
  The law of SameTree: at every two programs and every two places it answers true.
-/
import Derived.Test.YtjafneaaefpefaaSameI
import Derived.Test.YtjafneaaefpefaaRa
namespace Go.Proofs.Ytjafneaaefpefaa
open Go.RowKit

/-- The blocks of two struct parameters. -/
structure Duo (w : World) (o p : Obj) (W : World) : Prop where
  x : Box w o W
  y : Box (w.alloc o) p W
theorem Duo.first (w : World) (o p : Obj) : Duo w o p ((w.alloc o).alloc p) := ⟨(Box.first _ _).alloc _, Box.first _ _⟩
theorem Duo.next {w W W' : World} {o p : Obj} (h : Duo w o p W) (hb : Below W.heap.size W W') : Duo w o p W' := ⟨h.x.next hb, h.y.next hb⟩
theorem Duo.alloc {w W : World} {o p : Obj} (h : Duo w o p W) (q : Obj) : Duo w o p (W.alloc q) := ⟨h.x.alloc q, h.y.alloc q⟩
theorem Duo.below {w W : World} {o p : Obj} (h : Duo w o p W) : Below w.heap.size w W := h.x.below
theorem Duo.lt {w W : World} {o p : Obj} (h : Duo w o p W) : w.heap.size + 1 < W.heap.size := by have := h.y.lt; simpa using this
theorem Duo.drew {w W : World} {o p : Obj} (h : Duo w o p W) : Duo w o p W.drew := ⟨h.x.drew, h.y.drew⟩
theorem Duo.cx {w W : World} {cs : Array Value} {T : TypeId} {fr : Nat × Nat} {p : Obj} (h : Duo w (.cells cs T fr) p W) (j : Nat) : W.cell? ⟨w.heap.size, j, none⟩ = cs[j]? := h.x.cell j
theorem Duo.cy {w W : World} {cs : Array Value} {T : TypeId} {fr : Nat × Nat} {o : Obj} (h : Duo w o (.cells cs T fr) W) (j : Nat) : W.cell? ⟨w.heap.size + 1, j, none⟩ = cs[j]? := by
  have := h.y.cell j
  simpa using this

theorem Duo.four {w W : World} {a0 a1 b0 b1 : Value} {T U : TypeId} {f r : Nat × Nat} (h : Duo w (.cells #[a0, a1] T f) (.cells #[b0, b1] U r) W) : (W.cell? ⟨w.heap.size, 0, none⟩ = some a0 ∧ W.cell? ⟨w.heap.size, 1, none⟩ = some a1) ∧ W.cell? ⟨w.heap.size + 1, 0, none⟩ = some b0 ∧ W.cell? ⟨w.heap.size + 1, 1, none⟩ = some b1 :=
  ⟨⟨h.cx 0, h.cx 1⟩, h.cy 0, h.cy 1⟩

set_option maxRecDepth 100000 in
set_option maxHeartbeats 6400000 in
theorem lawSame (a0 a1 : Value) (p : Pg) (k : Int) (b0 b1 : Value) (q : Pg) (l : Int) (w : World) (hp : RowPg w w.heap.size a0 a1 p ∧ okPg p) (hq : RowPg w w.heap.size b0 b1 q ∧ okPg q) :
    Calls Try.prog 11 #[.agg #[a0, a1], .int .i64 k, .agg #[b0, b1], .int .i64 l] w fun e w' => e = .returned (.bool true) ∧ Below w.heap.size w w' := by
  have cZ : Hid (∀ W, Below w.heap.size w W → Calls Try.prog 26 #[.agg #[a0, a1], .int .i64 1048576] W fun e w' => (∃ r : Int, e = .returned (.int .i64 r) ∧ (r = -1 ∨ (0 ≤ r ∧ r + (szPg p : Int) = 1048576))) ∧ Below W.heap.size W w') := fun W hW =>
    szProgram_sum w.heap.size p a0 a1 1048576 W hW.size (hp.1.keep hW) hp.2 (by omega) (by omega)
  have cY : Hid (∀ W (left : Int), 0 ≤ left → left ≤ 1048576 → Below w.heap.size w W → Calls Try.prog 26 #[.agg #[b0, b1], .int .i64 left] W fun e w' => (∃ r : Int, e = .returned (.int .i64 r) ∧ (r = -1 ∨ (0 ≤ r ∧ r + (szPg q : Int) = left))) ∧ Below W.heap.size W w') := fun W left h0 h1 hW =>
    szProgram_sum w.heap.size q b0 b1 left W hW.size (hq.1.keep hW) hq.2 h0 h1
  have HP : Hid (RowPg w w.heap.size a0 a1 p ∧ RowPg w w.heap.size b0 b1 q) := ⟨hp.1, hq.1⟩
  clear hp hq
  go_enter Try.func11, Try.ntmps11
  go_wp2_with fail
  go_at_call 26
  refine Calls.mono (cZ.out _ (by go_grown)) ?_
  rintro e w1 ⟨⟨r, rfl, hr⟩, hb⟩
  have B1 : Hid (Duo w (.cells #[a0, a1] 34) (.cells #[b0, b1] 34) w1) := (Duo.first _ _ _).next hb
  clear cZ hb
  rcases hr with rfl | ⟨hr0, hr1⟩
  · go_wp2
    go_ret
    exact ⟨rfl, B1.out.below⟩
  have hrn : ¬ r < 0 := by omega
  have y0 := B1.out.cy 0
  have y1 := B1.out.cy 1
  simp at y0 y1
  go_wp2_with fail
  go_at_call 26
  refine Calls.mono (cY.out _ r hr0 (by omega) B1.out.below) ?_
  rintro e w2 ⟨⟨s, rfl, hs⟩, hb⟩
  have B2 : Hid (Duo w (.cells #[a0, a1] 34) (.cells #[b0, b1] 34) w2) := B1.out.next hb
  clear cY hb y0 y1 B1
  rcases hs with rfl | ⟨hs0, hs1⟩
  · go_wp2
    go_ret
    exact ⟨rfl, B2.out.below⟩
  have hsn : ¬ s < 0 := by omega
  have hl : szPg p ≤ 1048576 := by omega
  have hl2 : szPg q ≤ 1048576 := by omega
  have HL : Hid ((szPg p ≤ 1048576 ∧ szRow szNd p.nodes ≤ 1048576) ∧ szPg q ≤ 1048576 ∧ szRow szNd q.nodes ≤ 1048576) := ⟨⟨hl, Nat.le_trans (le_szPg_nodes p) hl⟩, hl2, Nat.le_trans (le_szPg_nodes q) hl2⟩
  obtain ⟨N0, H0⟩ : ∃ K, Hid (p.nodes.length = K) := ⟨_, (rfl : p.nodes.length = p.nodes.length)⟩
  obtain ⟨N1, H1⟩ : ∃ K, Hid (p.fns.length = K) := ⟨_, (rfl : p.fns.length = p.fns.length)⟩
  obtain ⟨M0, G0⟩ : ∃ K, Hid (q.nodes.length = K) := ⟨_, (rfl : q.nodes.length = q.nodes.length)⟩
  obtain ⟨M1, G1⟩ : ∃ K, Hid (q.fns.length = K) := ⟨_, (rfl : q.fns.length = q.fns.length)⟩
  have cT : Hid (∀ W, Below w.heap.size w W → Calls Try.prog 28 #[.agg #[a0, a1]] W fun e w' => ∃ g c g' c', e = .returned (.agg #[.slice (some ⟨g, 0, none⟩) N0 c, .slice (some ⟨g', 0, none⟩) N1 c']) ∧ OwnPg w' W.heap.size w'.heap.size (.slice (some ⟨g, 0, none⟩) N0 c) (.slice (some ⟨g', 0, none⟩) N1 c') p ∧ Below W.heap.size W w') := fun W hW => by
    rw [← H0.out, ← H1.out]
    exact toProgram_any w.heap.size p a0 a1 W hW.size (HP.out.1.keep hW) hl
  have cU : Hid (∀ W, Below w.heap.size w W → Calls Try.prog 28 #[.agg #[b0, b1]] W fun e w' => ∃ g c g' c', e = .returned (.agg #[.slice (some ⟨g, 0, none⟩) M0 c, .slice (some ⟨g', 0, none⟩) M1 c']) ∧ OwnPg w' W.heap.size w'.heap.size (.slice (some ⟨g, 0, none⟩) M0 c) (.slice (some ⟨g', 0, none⟩) M1 c') q ∧ Below W.heap.size W w') := fun W hW => by
    rw [← G0.out, ← G1.out]
    exact toProgram_any w.heap.size q b0 b1 W hW.size (HP.out.2.keep hW) hl2
  obtain ⟨z, hz⟩ : ∃ z : Bool, Hid (z = true ↔ SameTr p.nodes k q.nodes l) := some_bool _
  have cS : Hid (∀ W v0 v1 u0 u1, RowPg W W.heap.size v0 v1 p → RowPg W W.heap.size u0 u1 q → Calls Try.prog 41 #[.agg #[v0, v1], .int .i64 k, .agg #[u0, u1], .int .i64 l] W fun e w' => e = .returned (.bool z) ∧ Below W.heap.size W w') := fun W v0 v1 u0 u1 h h2 => specSameTree_any v0 v1 u0 u1 p.nodes q.nodes k l z W h.1 h2.1 HL.out.1.2 HL.out.2.2 hz.out
  have cI : Hid (∀ W v0 v1 u0 u1, RowPg W W.heap.size v0 v1 p → RowPg W W.heap.size u0 u1 q → Calls Try.prog 42 #[.agg #[v0, v1], .int .i64 k, .agg #[u0, u1], .int .i64 l] W fun e w' => e = .returned (.bool z) ∧ Below W.heap.size W w') := fun W v0 v1 u0 u1 h h2 => implSameTree_any v0 v1 u0 u1 p.nodes q.nodes k l z W h.1 h2.1 HL.out.1.2 HL.out.2.2 hz.out
  clear hl hl2 hr0 hr1 hs0 hs1
  have x0 := B2.out.cx 0
  have x1 := B2.out.cx 1
  have y0 := B2.out.cy 0
  have y1 := B2.out.cy 1
  simp at x0 x1 y0 y1
  go_wp2_with fail
  go_region_held3 (fun w' => (w'.cell? ⟨w.heap.size, 0, none⟩ = some a0 ∧ w'.cell? ⟨w.heap.size, 1, none⟩ = some a1) ∧ w'.cell? ⟨w.heap.size + 1, 0, none⟩ = some b0 ∧ w'.cell? ⟨w.heap.size + 1, 1, none⟩ = some b1) (first | exact DC.four | exact DB.four | exact DA.four | exact B2.out.drew.four) (first | (have _z := DB; go_at_call 41; refine Calls.mono (cS.out _ _ _ _ _ ((hoA.row.keep hbB).up hbB.size) hoB.row) ?_; rintro e wC ⟨rfl, hbC⟩; have DC := DB.next hbC) | (have _z := DA; go_at_call 28; refine Calls.mono (cU.out _ DA.below) ?_; rintro e wB ⟨gB, cB, gB', cB', rfl, hoB, hbB⟩; have DB := DA.next hbB) | (go_at_call 28; refine Calls.mono (cT.out _ B2.out.drew.below) ?_; rintro e wA ⟨gA, cA, gA', cA', rfl, hoA, hbA⟩; have DA := B2.out.drew.next hbA))
  have B3 : Hid (Duo w (.cells #[a0, a1] 34) (.cells #[b0, b1] 34) wC) := DC
  clear DA DB DC hbA hbB hbC hoA hoB B2 x0 x1 y0 y1 cS
  have x0 := B3.out.cx 0
  have x1 := B3.out.cx 1
  simp at x0 x1
  go_wp2_with fail
  go_at_call 28
  refine Calls.mono (cT.out _ B3.out.below) ?_
  rintro e w4 ⟨g2, c2, g2', c2', rfl, ho, hb⟩
  have B4 : Hid (Duo w (.cells #[a0, a1] 34) (.cells #[b0, b1] 34) w4) := B3.out.next hb
  have R4 : Hid (RowPg w4 w4.heap.size (.slice (some ⟨g2, 0, none⟩) N0 c2) (.slice (some ⟨g2', 0, none⟩) N1 c2') p) := ho.row
  clear hb B3 x0 x1 ho
  have y0 := B4.out.cy 0
  have y1 := B4.out.cy 1
  simp at y0 y1
  have hd4 := B4.out.lt
  go_wp2_with fail
  go_at_call 28
  refine Calls.mono (cU.out _ (B4.out.alloc _).below) ?_
  rintro e w5 ⟨g3, c3, g3', c3', rfl, ho, hb⟩
  have B5 : Hid (Duo w (.cells #[a0, a1] 34) (.cells #[b0, b1] 34) w5) := (B4.out.alloc _).next hb
  have X5 : Hid (Box w4 (.cells #[.slice (some ⟨g2, 0, none⟩) N0 c2, .slice (some ⟨g2', 0, none⟩) N1 c2'] 39) w5) := (Box.first _ _).next hb
  have R5 : Hid (RowPg w5 w5.heap.size (.slice (some ⟨g2, 0, none⟩) N0 c2) (.slice (some ⟨g2', 0, none⟩) N1 c2') p ∧ RowPg w5 w5.heap.size (.slice (some ⟨g3, 0, none⟩) M0 c3) (.slice (some ⟨g3', 0, none⟩) M1 c3') q) := ⟨(R4.out.keep X5.out.below).up (Nat.le_of_lt X5.out.lt), ho.row⟩
  clear hb ho B4 R4 y0 y1 hd4
  have z0 := X5.out.cell 0
  have z1 := X5.out.cell 1
  simp at z0 z1
  have hlt5 := X5.out.lt
  go_wp2_with fail
  go_at_call 42
  refine Calls.mono (cI.out _ _ _ _ _ ((R5.out.1.keep ((Below.refl _ _).alloc (Nat.le_refl _) _)).up (by simp)) ((R5.out.2.keep ((Below.refl _ _).alloc (Nat.le_refl _) _)).up (by simp))) ?_
  rintro e w6 ⟨rfl, hb⟩
  have B6 : Hid (Duo w (.cells #[a0, a1] 34) (.cells #[b0, b1] 34) w6) := (B5.out.alloc _).next hb
  have X6 : Hid (Box w4 (.cells #[.slice (some ⟨g2, 0, none⟩) N0 c2, .slice (some ⟨g2', 0, none⟩) N1 c2'] 39) w6) := (X5.out.alloc _).next hb
  have Y6 : Hid (Box w5 (.cells #[.slice (some ⟨g3, 0, none⟩) M0 c3, .slice (some ⟨g3', 0, none⟩) M1 c3'] 39) w6) := (Box.first _ _).next hb
  have R6 : Hid (RowPg w6 w5.heap.size (.slice (some ⟨g2, 0, none⟩) N0 c2) (.slice (some ⟨g2', 0, none⟩) N1 c2') p ∧ RowPg w6 w5.heap.size (.slice (some ⟨g3, 0, none⟩) M0 c3) (.slice (some ⟨g3', 0, none⟩) M1 c3') q) := ⟨R5.out.1.keep Y6.out.below, R5.out.2.keep Y6.out.below⟩
  clear hb B5 X5 R5 cI z0 z1
  have z0 : w6.cell? ⟨w4.heap.size, 0, none⟩ = some (.slice (some ⟨g2, 0, none⟩) N0 c2) := X6.out.cell 0
  have z1 : w6.cell? ⟨w4.heap.size, 1, none⟩ = some (.slice (some ⟨g2', 0, none⟩) N1 c2') := X6.out.cell 1
  have x0 : w6.cell? ⟨w.heap.size, 0, none⟩ = some a0 := B6.out.cx 0
  have x1 : w6.cell? ⟨w.heap.size, 1, none⟩ = some a1 := B6.out.cx 1
  have hz5 : w5.heap.size ≤ w6.heap.size := Nat.le_of_lt Y6.out.lt
  go_wp2_with fail
  go_region_held3 (fun w' => (w'.cell? ⟨w4.heap.size, 0, none⟩ = some (.slice (some ⟨g2, 0, none⟩) N0 c2) ∧ w'.cell? ⟨w4.heap.size, 1, none⟩ = some (.slice (some ⟨g2', 0, none⟩) N1 c2')) ∧ w'.cell? ⟨w.heap.size, 0, none⟩ = some a0 ∧ w'.cell? ⟨w.heap.size, 1, none⟩ = some a1) (first | exact ⟨⟨XB.cell 0, XB.cell 1⟩, DB.cx 0, DB.cx 1⟩ | exact ⟨⟨XA.cell 0, XA.cell 1⟩, DA.cx 0, DA.cx 1⟩ | exact ⟨⟨X6.out.drew.cell 0, X6.out.drew.cell 1⟩, B6.out.drew.cx 0, B6.out.drew.cx 1⟩) (first | (go_at_call 28; refine Calls.mono (cT.out _ B6.out.drew.below) ?_; rintro e wA ⟨gA, cA, gA', cA', rfl, hoA, hbA⟩; have DA := B6.out.drew.next hbA; have XA := X6.out.drew.next hbA) | (go_at_call 30; refine Calls.mono (eqProgram_same wA.heap.size p _ _ _ _ wA (Nat.le_refl _) ((R6.out.1.keep ((Below.refl _ _).drew.trans (hbA.mono hz5))).up (Nat.le_trans hz5 hbA.size)) hoA.row HL.out.1.1) ?_; rintro e wB ⟨rfl, hbB⟩; have DB := DA.next hbB; have XB := XA.next hbB))
  have HB7 : Hid (Below w6.heap.size w6 wB) := (Below.refl _ _).drew.trans (hbA.trans (hbB.mono hbA.size))
  clear DA DB XA XB hbA hbB hoA z0 z1 x0 x1
  have B7 : Hid (Duo w (.cells #[a0, a1] 34) (.cells #[b0, b1] 34) wB) := B6.out.next HB7.out
  have Y7 : Hid (Box w5 (.cells #[.slice (some ⟨g3, 0, none⟩) M0 c3, .slice (some ⟨g3', 0, none⟩) M1 c3'] 39) wB) := Y6.out.next HB7.out
  have R7 : Hid (RowPg wB w5.heap.size (.slice (some ⟨g3, 0, none⟩) M0 c3) (.slice (some ⟨g3', 0, none⟩) M1 c3') q) := R6.out.2.keep (HB7.out.mono hz5)
  have hz7 : w5.heap.size ≤ wB.heap.size := Nat.le_of_lt Y7.out.lt
  clear B6 X6 Y6 R6 HB7
  have z0 : wB.cell? ⟨w5.heap.size, 0, none⟩ = some (.slice (some ⟨g3, 0, none⟩) M0 c3) := Y7.out.cell 0
  have z1 : wB.cell? ⟨w5.heap.size, 1, none⟩ = some (.slice (some ⟨g3', 0, none⟩) M1 c3') := Y7.out.cell 1
  have x0 : wB.cell? ⟨w.heap.size + 1, 0, none⟩ = some b0 := B7.out.cy 0
  have x1 : wB.cell? ⟨w.heap.size + 1, 1, none⟩ = some b1 := B7.out.cy 1
  go_wp2_with fail
  go_region_held3 (fun w' => (w'.cell? ⟨w5.heap.size, 0, none⟩ = some (.slice (some ⟨g3, 0, none⟩) M0 c3) ∧ w'.cell? ⟨w5.heap.size, 1, none⟩ = some (.slice (some ⟨g3', 0, none⟩) M1 c3')) ∧ w'.cell? ⟨w.heap.size + 1, 0, none⟩ = some b0 ∧ w'.cell? ⟨w.heap.size + 1, 1, none⟩ = some b1) (first | exact ⟨⟨YD.cell 0, YD.cell 1⟩, DD.cy 0, DD.cy 1⟩ | exact ⟨⟨YC.cell 0, YC.cell 1⟩, DC.cy 0, DC.cy 1⟩ | exact ⟨⟨Y7.out.drew.cell 0, Y7.out.drew.cell 1⟩, B7.out.drew.cy 0, B7.out.drew.cy 1⟩) (first | (go_at_call 28; refine Calls.mono (cU.out _ B7.out.drew.below) ?_; rintro e wC ⟨gC, cC, gC', cC', rfl, hoC, hbC⟩; have DC := B7.out.drew.next hbC; have YC := Y7.out.drew.next hbC) | (go_at_call 30; refine Calls.mono (eqProgram_same wC.heap.size q _ _ _ _ wC (Nat.le_refl _) ((R7.out.keep ((Below.refl _ _).drew.trans (hbC.mono hz7))).up (Nat.le_trans hz7 hbC.size)) hoC.row HL.out.2.1) ?_; rintro e wD ⟨rfl, hbD⟩; have DD := DC.next hbD; have YD := YC.next hbD))
  have HB9 : Hid (Below w.heap.size w wD) := DD.below
  clear DC DD YC YD hbC hbD hoC z0 z1 x0 x1
  go_wp2
  go_ret
  exact ⟨rfl, HB9.out⟩

end Go.Proofs.Ytjafneaaefpefaa
