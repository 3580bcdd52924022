/-
  The law of Under: at every program and every place it answers true.
-/
import Derived.Test.YtjafneaaefpefaaPr
import Derived.Test.YtjafneaaefpefaaMk
namespace Go.Proofs.Ytjafneaaefpefaa
open Go.RowKit

theorem OwnsI.at {w : World} {B : Nat} {v : Value} {xs : List Int} (h : OwnsI w B v xs) {H : Nat} (hH : w.heap.size ≤ H) : RowI w H v xs := RowI.up h.row hH
theorem OwnsI.rim {w w' : World} {B L H : Nat} {v : Value} {xs : List Int} (h : OwnsI w B v xs) (hr : Rim L H w w') (hd : ∀ g ∈ fpOf v, g < L ∨ H ≤ g) : OwnsI w' B v xs :=
  OwnsR.same h (fun g hg => hr.block g (OwnsR.lt h g hg).2 (hd g hg))
theorem OwnsI.keptBy {w w' : World} {B : Nat} {v u : Value} {xs : List Int} (h : OwnsI w B v xs) (hr : Kept [u] w w') (hd : ∀ g ∈ fpOf v, g ∉ fpOf u) : OwnsI w' B v xs :=
  OwnsR.same h (fun g hg => hr.block g (OwnsR.lt h g hg).2 (by rw [fps_one]; exact hd g hg))

set_option maxRecDepth 100000 in
set_option maxHeartbeats 6400000 in
theorem lawUnder (a0 a1 : Value) (p : Pg) (k : Int) (w : World) (hp : RowPg w w.heap.size a0 a1 p ∧ okPg p) :
    Calls Try.prog 9 #[.agg #[a0, a1], .int .i64 k] w fun e w' => e = .returned (.bool true) ∧ Below w.heap.size w w' := by
  have cZ : Hid (∀ W, Below w.heap.size w W → Calls Try.prog 26 #[.agg #[a0, a1], .int .i64 1048576] W fun e w' => (∃ r : Int, e = .returned (.int .i64 r) ∧ (r = -1 ∨ (0 ≤ r ∧ r + (szPg p : Int) = 1048576))) ∧ Below W.heap.size W w') := fun W hW =>
    szProgram_sum w.heap.size p a0 a1 1048576 W hW.size (hp.1.keep hW) hp.2 (by omega) (by omega)
  have HP : Hid (RowPg w w.heap.size a0 a1 p) := hp.1
  clear hp
  go_enter Try.func9, Try.ntmps9
  go_wp2_with fail
  go_at_call 26
  refine Calls.mono (cZ.out _ (by go_grown)) ?_
  rintro e w1 ⟨⟨r, rfl, hr⟩, hb⟩
  have B1 : Hid (Box w (.cells #[a0, a1] 34) w1) := (Box.first _ _).next hb
  clear cZ hb
  rcases hr with rfl | ⟨hr0, hr1⟩
  · go_wp2
    go_ret
    exact ⟨rfl, B1.out.below⟩
  have hrn : ¬ r < 0 := by omega
  have hl : szPg p ≤ 1048576 := by omega
  have HL : Hid (szPg p ≤ 1048576 ∧ szRow szNd p.nodes ≤ 1048576) := ⟨hl, Nat.le_trans (le_szPg_nodes p) hl⟩
  obtain ⟨N0, H0⟩ : ∃ K, Hid (p.nodes.length = K) := ⟨_, (rfl : p.nodes.length = p.nodes.length)⟩
  obtain ⟨N1, H1⟩ : ∃ K, Hid (p.fns.length = K) := ⟨_, (rfl : p.fns.length = p.fns.length)⟩
  have cT : Hid (∀ W, Below w.heap.size w W → Calls Try.prog 28 #[.agg #[a0, a1]] W fun e w' => ∃ g c g' c', e = .returned (.agg #[.slice (some ⟨g, 0, none⟩) N0 c, .slice (some ⟨g', 0, none⟩) N1 c']) ∧ OwnPg w' W.heap.size w'.heap.size (.slice (some ⟨g, 0, none⟩) N0 c) (.slice (some ⟨g', 0, none⟩) N1 c') p ∧ Below W.heap.size W w') := fun W hW => by
    rw [← H0.out, ← H1.out]
    exact toProgram_any w.heap.size p a0 a1 W hW.size (HP.out.keep hW) hl
  have cS : Hid (∀ W v0 v1, RowPg W W.heap.size v0 v1 p → Calls Try.prog 31 #[.agg #[v0, v1], .int .i64 k] W fun e w' => (∃ g cap xs, e = .returned (.slice (some ⟨g, 0, none⟩) xs.length cap) ∧ OwnsI w' W.heap.size (.slice (some ⟨g, 0, none⟩) xs.length cap) xs ∧ UnderAns p.nodes k xs ∧ xs.length ≤ 1048576) ∧ Below W.heap.size W w') := fun W v0 v1 h => specUnder_any v0 v1 p.nodes k W h.1 HL.out.2
  have cI : Hid (∀ W v0 v1, RowPg W W.heap.size v0 v1 p → Calls Try.prog 32 #[.agg #[v0, v1], .int .i64 k] W fun e w' => (∃ v xs, e = .returned v ∧ OwnsI w' W.heap.size v xs ∧ UnderAns p.nodes k xs ∧ xs.length ≤ 1048576) ∧ Below W.heap.size W w') := fun W v0 v1 h => implUnder_any v0 v1 p.nodes k W h.1 HL.out.2
  clear hl hr0 hr1
  have x0 := B1.out.cell 0
  have x1 := B1.out.cell 1
  simp at x0 x1
  go_wp2_with fail
  go_at_call 28
  refine Calls.mono (cT.out _ B1.out.below) ?_
  rintro e w2 ⟨g, c, g', c', rfl, ho, hb⟩
  have B2 : Hid (Box w (.cells #[a0, a1] 34) w2) := B1.out.next hb
  clear hb B1 x0 x1
  go_wp2_with fail
  go_at_call 31
  refine Calls.mono (cS.out _ _ _ ho.row) ?_
  rintro e w3 ⟨⟨gs, cs, xs, rfl, hos, hua, hxl⟩, hb⟩
  have B3 : Hid (Box w (.cells #[a0, a1] 34) w3) := B2.out.next hb
  have HU : Hid (UnderAns p.nodes k xs) := hua
  obtain ⟨X, HX⟩ : ∃ n, Hid (xs.length = n) := ⟨_, (rfl : xs.length = xs.length)⟩
  rw [HX.out] at hos hxl ⊢
  have A3 : Hid (OwnsI w3 w2.heap.size (.slice (some ⟨gs, 0, none⟩) X cs) xs) := hos
  have hgs : gs < w3.heap.size := (OwnsR.lt hos gs (by simp [fpOf, Value.ownBlock])).2
  clear hb B2 ho cS hos hua
  have x0 := B3.out.cell 0
  have x1 := B3.out.cell 1
  simp at x0 x1
  go_wp2_with fail
  go_at_call 28
  refine Calls.mono (cT.out _ B3.out.below) ?_
  rintro e w4 ⟨g2, c2, g2', c2', rfl, ho, hb⟩
  have B4 : Hid (Box w (.cells #[a0, a1] 34) w4) := B3.out.next hb
  have A4 : Hid (OwnsI w4 w2.heap.size (.slice (some ⟨gs, 0, none⟩) X cs) xs) := OwnsR.below A3.out hb
  have P4 : Hid (OwnPg w4 w3.heap.size w4.heap.size (.slice (some ⟨g2, 0, none⟩) N0 c2) (.slice (some ⟨g2', 0, none⟩) N1 c2') p) := ho
  have hz4 : w3.heap.size ≤ w4.heap.size := hb.size
  have hw3 : w.heap.size < w3.heap.size := B3.out.lt
  clear hb B3 x0 x1 ho A3
  go_wp2_with fail
  go_at_call 32
  refine Calls.mono (cI.out _ _ _ ((P4.out.row.keep ((Below.refl _ _).alloc (Nat.le_refl _) _)).up (by simp))) ?_
  rintro e w5 ⟨⟨vg, ys, rfl, hog, hua, _⟩, hb⟩
  obtain rfl := underAns_one hua HU.out
  have B5 : Hid (Box w (.cells #[a0, a1] 34) w5) := (B4.out.alloc _).next hb
  have X5 : Hid (Box w4 (.cells #[.slice (some ⟨g2, 0, none⟩) N0 c2, .slice (some ⟨g2', 0, none⟩) N1 c2'] 39) w5) := (Box.first _ _).next hb
  have A5 : Hid (OwnsI w5 w2.heap.size (.slice (some ⟨gs, 0, none⟩) X cs) ys ∧ OwnsI w5 (w4.heap.size + 1) vg ys) := ⟨OwnsR.below (World.ownsRow.alloc A4.out _) hb, owns_base hog (by simp)⟩
  have P5 : Hid (OwnPg w5 w3.heap.size w4.heap.size (.slice (some ⟨g2, 0, none⟩) N0 c2) (.slice (some ⟨g2', 0, none⟩) N1 c2') p) := P4.out.same (fun b _ h2 => (hb.block b (by simp; omega)).trans (Below.heap_alloc _ _ _ h2))
  clear hb B4 A4 P4 hog hua
  go_wp2_with fail
  go_at_call 33
  refine Calls.mono (eqIntS_same w5.heap.size _ _ ys w5 (Nat.le_refl _) A5.out.2.row A5.out.1.row (by rw [HX.out]; exact hxl)) ?_
  rintro e w6 ⟨rfl, hb⟩
  have B6 : Hid (Box w (.cells #[a0, a1] 34) w6) := B5.out.next hb
  have X6 : Hid (Box w4 (.cells #[.slice (some ⟨g2, 0, none⟩) N0 c2, .slice (some ⟨g2', 0, none⟩) N1 c2'] 39) w6) := X5.out.next hb
  have A6 : Hid (OwnsI w6 w2.heap.size (.slice (some ⟨gs, 0, none⟩) X cs) ys ∧ OwnsI w6 (w4.heap.size + 1) vg ys) := ⟨OwnsR.below A5.out.1 hb, OwnsR.below A5.out.2 hb⟩
  have P6 : Hid (OwnPg w6 w3.heap.size w4.heap.size (.slice (some ⟨g2, 0, none⟩) N0 c2) (.slice (some ⟨g2', 0, none⟩) N1 c2') p) := P5.out.same (fun b _ h2 => hb.block b (by have := X5.out.lt; omega))
  have hz6 : w4.heap.size < w6.heap.size := X6.out.lt
  clear hb B5 X5 A5 P5
  have y0 : w6.cell? ⟨w4.heap.size, 0, none⟩ = some (.slice (some ⟨g2, 0, none⟩) N0 c2) := X6.out.cell 0
  have y1 : w6.cell? ⟨w4.heap.size, 1, none⟩ = some (.slice (some ⟨g2', 0, none⟩) N1 c2') := X6.out.cell 1
  have x0 : w6.cell? ⟨w.heap.size, 0, none⟩ = some a0 := B6.out.cell 0
  have x1 : w6.cell? ⟨w.heap.size, 1, none⟩ = some a1 := B6.out.cell 1
  have hlt := B6.out.lt
  go_wp2_with fail
  go_region_held3 (fun w' => (w'.cell? ⟨w4.heap.size, 0, none⟩ = some (.slice (some ⟨g2, 0, none⟩) N0 c2) ∧ w'.cell? ⟨w4.heap.size, 1, none⟩ = some (.slice (some ⟨g2', 0, none⟩) N1 c2')) ∧ w'.cell? ⟨w.heap.size, 0, none⟩ = some a0 ∧ w'.cell? ⟨w.heap.size, 1, none⟩ = some a1) (first | exact ⟨⟨y0, y1⟩, x0, x1⟩ | exact ⟨⟨(hb7.cell (p := ⟨w4.heap.size, 0, none⟩) hz6).trans y0, (hb7.cell (p := ⟨w4.heap.size, 1, none⟩) hz6).trans y1⟩, (hb7.cell (p := ⟨w.heap.size, 0, none⟩) hlt).trans x0, (hb7.cell (p := ⟨w.heap.size, 1, none⟩) hlt).trans x1⟩ | exact ⟨⟨(hb8.cell (p := ⟨w4.heap.size, 0, none⟩) (Nat.lt_of_lt_of_le hz6 hb7.size)).trans ((hb7.cell (p := ⟨w4.heap.size, 0, none⟩) hz6).trans y0), (hb8.cell (p := ⟨w4.heap.size, 1, none⟩) (Nat.lt_of_lt_of_le hz6 hb7.size)).trans ((hb7.cell (p := ⟨w4.heap.size, 1, none⟩) hz6).trans y1)⟩, (hb8.cell (p := ⟨w.heap.size, 0, none⟩) (Nat.lt_of_lt_of_le hlt hb7.size)).trans ((hb7.cell (p := ⟨w.heap.size, 0, none⟩) hlt).trans x0), (hb8.cell (p := ⟨w.heap.size, 1, none⟩) (Nat.lt_of_lt_of_le hlt hb7.size)).trans ((hb7.cell (p := ⟨w.heap.size, 1, none⟩) hlt).trans x1)⟩) (first | (go_at_call 28; refine Calls.mono (cT.out _ B6.out.below.drew) ?_; rintro e w7 ⟨g3, c3, g3', c3', rfl, ho7, hb7⟩) | (go_at_call 30; refine Calls.mono (eqProgram_same w7.heap.size p _ _ _ _ w7 (Nat.le_refl _) ((P6.out.row.keep ((Below.refl _ _).drew.trans (hb7.mono (Nat.le_of_lt hz6)))).up (Nat.le_trans (Nat.le_of_lt hz6) hb7.size)) ho7.row HL.out.1) ?_; rintro e w8 ⟨rfl, hb8⟩))
  have HB8 : Hid (Below w6.heap.size w6 w8) := (Below.refl _ _).drew.trans (hb7.trans (hb8.mono hb7.size))
  clear hb7 hb8 ho7 y0 y1 x0 x1
  have B8 : Hid (Box w (.cells #[a0, a1] 34) w8) := B6.out.next HB8.out
  have X8 : Hid (Box w4 (.cells #[.slice (some ⟨g2, 0, none⟩) N0 c2, .slice (some ⟨g2', 0, none⟩) N1 c2'] 39) w8) := X6.out.next HB8.out
  have A8 : Hid (OwnsI w8 w2.heap.size (.slice (some ⟨gs, 0, none⟩) X cs) ys ∧ OwnsI w8 (w4.heap.size + 1) vg ys) := ⟨OwnsR.below A6.out.1 HB8.out, OwnsR.below A6.out.2 HB8.out⟩
  have P8 : Hid (OwnPg w8 w3.heap.size w4.heap.size (.slice (some ⟨g2, 0, none⟩) N0 c2) (.slice (some ⟨g2', 0, none⟩) N1 c2') p) := P6.out.same (fun b _ h2 => HB8.out.block b (by omega))
  have hz8 := X8.out.lt
  clear B6 X6 A6 P6 HB8
  have y0 := X8.out.cell 0
  have y1 := X8.out.cell 1
  simp at y0 y1
  go_wp2_with fail
  go_at_call 34
  refine Calls.mono (markProgram_any w3.heap.size w4.heap.size _ _ p w8 P8.out (by omega) HL.out.1) ?_
  rintro e w9 ⟨⟨km, rfl, _, _⟩, hrim⟩
  have B9 : Hid (Box w (.cells #[a0, a1] 34) w9) := ⟨B8.out.b.trans ((hrim.below (by omega)).mono (by omega))⟩
  have A9 : Hid (OwnsI w9 w2.heap.size (.slice (some ⟨gs, 0, none⟩) X cs) ys ∧ OwnsI w9 (w4.heap.size + 1) vg ys) :=
    ⟨OwnsI.rim A8.out.1 hrim (fun b hb => by have : b = gs := by simpa [fpOf, Value.ownBlock] using hb
                                             omega), OwnsI.rim A8.out.2 hrim (fun b hb => by have := (OwnsR.lt A8.out.2 b hb).1; omega)⟩
  clear hrim B8 X8 A8 P8 y0 y1
  have hkn : ¬ (km : Int) < 0 := by omega
  go_wp2_with fail
  go_at_call 33
  refine Calls.mono (eqIntS_same w9.heap.size _ _ ys w9 (Nat.le_refl _) A9.out.2.row A9.out.1.row (by rw [HX.out]; exact hxl)) ?_
  rintro e w10 ⟨rfl, hb⟩
  have B10 : Hid (Box w (.cells #[a0, a1] 34) w10) := B9.out.next hb
  have A10 : Hid (OwnsI w10 w2.heap.size (.slice (some ⟨gs, 0, none⟩) X cs) ys ∧ OwnsI w10 (w4.heap.size + 1) vg ys) := ⟨OwnsR.below A9.out.1 hb, OwnsR.below A9.out.2 hb⟩
  clear hb B9 A9
  go_wp2_with fail
  go_at_call 35
  refine Calls.mono (markIntS_any (w4.heap.size + 1) vg 1 ys w10 (by rw [HX.out]; omega) A10.out.2) ?_
  rintro e w11 ⟨rfl, hom, hk⟩
  have hvg : ∀ b ∈ fpOf vg, w4.heap.size + 1 ≤ b := fun b hb => (OwnsR.lt A10.out.2 b hb).1
  have B11 : Hid (Box w (.cells #[a0, a1] 34) w11) := ⟨B10.out.b.trans (hk.below (by have := B10.out.lt; omega) (fun b hb => by rw [fps_one] at hb; have := hvg b hb; omega))⟩
  have A11 : Hid (OwnsI w11 w2.heap.size (.slice (some ⟨gs, 0, none⟩) X cs) ys ∧ OwnsI w11 (w4.heap.size + 1) vg (markL mkI lnI 1 ys)) :=
    ⟨OwnsI.keptBy A10.out.1 hk (fun b hb hm => by have : b = gs := by simpa [fpOf, Value.ownBlock] using hb
                                                  have := hvg b hm
                                                  omega), hom⟩
  obtain ⟨Y, hY⟩ : ∃ y : Nat, Hid (1 + X = y) := ⟨_, (rfl : 1 + X = 1 + X)⟩
  rw [HX.out, hY.out]
  have hYb : Y ≤ 1000000000 := by have := hY.out; omega
  clear hk hom B10 A10 hvg
  have cH : Hid (∀ W, OwnsI W (w4.heap.size + 1) vg (markL mkI lnI 1 ys) → Calls Try.prog 36 #[vg, .int .i64 ((1 : Nat) : Int)] W fun e' w' => e' = .returned (.int .i64 (Y : Int)) ∧ Below W.heap.size W w') := fun W h => by
    have := heldIntS_any W.heap.size vg 1 ys W (Nat.le_refl _) (by rw [HX.out]; omega) h.row
    rw [HX.out, hY.out] at this
    exact this
  go_wp2_with fail
  go_at_call 36
  refine Calls.mono (cH.out _ A11.out.2) ?_
  rintro e w12 ⟨rfl, hb⟩
  have B12 : Hid (Box w (.cells #[a0, a1] 34) w12) := B11.out.next hb
  have A12 : Hid (OwnsI w12 w2.heap.size (.slice (some ⟨gs, 0, none⟩) X cs) ys ∧ OwnsI w12 (w4.heap.size + 1) vg (markL mkI lnI 1 ys)) := ⟨OwnsR.below A11.out.1 hb, OwnsR.below A11.out.2 hb⟩
  clear hb B11 A11
  have hYn : ¬ (Y : Int) < 0 := by omega
  have x0 := B12.out.cell 0
  have x1 := B12.out.cell 1
  simp at x0 x1
  go_wp2_with fail
  go_at_call 28
  refine Calls.mono (cT.out _ B12.out.below) ?_
  rintro e w13 ⟨g5, c5, g5', c5', rfl, ho, hb⟩
  have B13 : Hid (Box w (.cells #[a0, a1] 34) w13) := B12.out.next hb
  have A13 : Hid (OwnsI w13 w2.heap.size (.slice (some ⟨gs, 0, none⟩) X cs) ys ∧ OwnsI w13 (w4.heap.size + 1) vg (markL mkI lnI 1 ys)) := ⟨OwnsR.below A12.out.1 hb, OwnsR.below A12.out.2 hb⟩
  clear hb B12 A12 x0 x1 cT
  go_wp2_with fail
  go_at_call 32
  refine Calls.mono (cI.out _ _ _ ho.row) ?_
  rintro e w14 ⟨⟨vh, zs, rfl, hoh, hua, _⟩, hb⟩
  obtain rfl := underAns_one hua HU.out
  have B14 : Hid (Box w (.cells #[a0, a1] 34) w14) := B13.out.next hb
  have A14 : Hid (OwnsI w14 w2.heap.size (.slice (some ⟨gs, 0, none⟩) X cs) zs ∧ OwnsI w14 (w4.heap.size + 1) vg (markL mkI lnI 1 zs) ∧ OwnsI w14 w13.heap.size vh zs) := ⟨OwnsR.below A13.out.1 hb, OwnsR.below A13.out.2 hb, hoh⟩
  clear hb B13 A13 ho hoh hua cI
  go_wp2_with fail
  go_at_call 33
  refine Calls.mono (eqIntS_same w14.heap.size _ _ zs w14 (Nat.le_refl _) A14.out.2.2.row A14.out.1.row (by rw [HX.out]; exact hxl)) ?_
  rintro e w15 ⟨rfl, hb⟩
  have B15 : Hid (Box w (.cells #[a0, a1] 34) w15) := B14.out.next hb
  have A15 : Hid (OwnsI w15 (w4.heap.size + 1) vg (markL mkI lnI 1 zs)) := OwnsR.below A14.out.2.1 hb
  clear hb B14 A14
  go_wp2_with fail
  go_at_call 36
  refine Calls.mono (cH.out _ A15.out) ?_
  rintro e w16 ⟨rfl, hb⟩
  have B16 : Hid (Box w (.cells #[a0, a1] 34) w16) := B15.out.next hb
  clear hb B15 A15
  go_wp2
  go_ret
  exact ⟨rfl, B16.out.below⟩

end Go.Proofs.Ytjafneaaefpefaa
