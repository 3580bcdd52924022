/-
  The law of Fresh: at every argument it answers true. Written by mkmemlaw.py.
-/
import Derived.Test.YtogdofdgkhkcaaaEqMem
import Derived.Test.YtogdofdgkhkcaaaOpenMem
import Derived.Test.YtogdofdgkhkcaaaImXFresh
namespace Go.Proofs.Ytogdofdgkhkcaaa
open Go.RowKit

theorem stay1 {W W' : World} {b : Nat} {o : Obj} (h : W.heap[b]? = some o) (hb : Below W.heap.size W W') : W'.heap[b]? = some o := by
  rcases Nat.lt_or_ge b W.heap.size with h2 | h2
  · exact (hb.block _ h2).trans h
  · rw [Array.getElem?_eq_none h2] at h; cases h
theorem stayr {W W' : World} {b B H : Nat} {o : Obj} (h : W.heap[b]? = some o) (hb : Rim B H W W') (hd : b < B ∨ H ≤ b) : W'.heap[b]? = some o := by
  rcases Nat.lt_or_ge b W.heap.size with h2 | h2
  · exact (hb.block _ h2 hd).trans h
  · rw [Array.getElem?_eq_none h2] at h; cases h
theorem heap_lt {W : World} {b : Nat} {o : Obj} (h : W.heap[b]? = some o) : b < W.heap.size := by
  rcases Nat.lt_or_ge b W.heap.size with h2 | h2
  · exact h2
  · rw [Array.getElem?_eq_none h2] at h; cases h
theorem Box.at0 {w W : World} {o : Obj} (h : Box w o W) : W.heap[w.heap.size]? = some o := (h.b.block w.heap.size (Nat.lt_succ_self _)).trans (heap_alloc_new _ _)

set_option maxRecDepth 100000 in
set_option maxHeartbeats 6400000 in
theorem lawFresh (a0 a1 a2 : Value) (m : Mm) (k : Int) (w : World) (hp : RowMm w w.heap.size a0 a1 a2 m ∧ okMm m) :
    Calls Try.prog 7 #[.agg #[a0, a1, a2, .int .i64 m.fuel, .int .i64 m.bad], .int .i64 k] w fun e w' => e = .returned (.bool true) ∧ Below w.heap.size w w' := by
  have cZ : Hid (∀ W, Below w.heap.size w W → Calls Try.prog 51 #[.agg #[a0, a1, a2, .int .i64 m.fuel, .int .i64 m.bad], .int .i64 1048576] W fun e w' => (∃ r : Int, e = .returned (.int .i64 r) ∧ (r = -1 ∨ (0 ≤ r ∧ r + (szMm m : Int) = 1048576))) ∧ Below W.heap.size W w') := fun W hW =>
    szMemory_sum w.heap.size m a0 a1 a2 1048576 W hW.size (hp.1.1.keep hW) (hp.1.2.1.keep hW) (hp.1.2.2.keep hW) hp.2 (by omega) (by omega)
  obtain ⟨fu, hfu⟩ : ∃ f, Hid (m.fuel = f) := ⟨_, (rfl : m.fuel = m.fuel)⟩
  obtain ⟨bd, hbd⟩ : ∃ f, Hid (m.bad = f) := ⟨_, (rfl : m.bad = m.bad)⟩
  have HP : Hid (RowMm w w.heap.size a0 a1 a2 m ∧ okMm m) := hp
  rw [hfu.out, hbd.out] at cZ ⊢
  clear hp
  go_enter Try.func7, Try.ntmps7
  have B0 : Hid (Laid w [(.cells #[a0, a1, a2, .int .i64 fu, .int .i64 bd] 58 (0, 0))] (w.alloc (.cells #[a0, a1, a2, .int .i64 fu, .int .i64 bd] 58 (0, 0)))) := (allocs_laid [(.cells #[a0, a1, a2, .int .i64 fu, .int .i64 bd] 58 (0, 0))] w).1
  go_wp2_with fail
  go_at_call 51
  refine Calls.mono (cZ.out _ B0.out.low) ?_
  rintro e w1 ⟨⟨r, rfl, hr⟩, hb⟩
  have B1 : Hid (Laid w [(.cells #[a0, a1, a2, .int .i64 fu, .int .i64 bd] 58 (0, 0))] w1) := B0.out.next hb
  clear cZ hb B0
  rcases hr with rfl | ⟨hr0, hr1⟩
  · go_wp2
    go_ret
    exact ⟨rfl, B1.out.low⟩
  have hrn : ¬ r < 0 := by omega
  have hl : szMm m ≤ 1048576 := by omega
  have cT : Hid (∀ W, Below w.heap.size w W → Calls Try.prog 52 #[.agg #[a0, a1, a2, .int .i64 fu, .int .i64 bd]] W fun e w' => ∃ y0 yn0 yc0 y1 yn1 yc1 y2 yn2 yc2, e = .returned (.agg #[.slice y0 yn0 yc0, .slice y1 yn1 yc1, .slice y2 yn2 yc2, .int .i64 fu, .int .i64 bd]) ∧ OwnMm w' W.heap.size w'.heap.size (.slice y0 yn0 yc0) (.slice y1 yn1 yc1) (.slice y2 yn2 yc2) m ∧ Below W.heap.size W w') := fun W hW => by
    have := toMemory_any w.heap.size m a0 a1 a2 W hW.size (HP.out.1.keep hW) hl
    rw [hfu.out, hbd.out] at this
    refine this.mono ?_
    rintro e w' ⟨v0, v1, v2, rfl, hO, hb⟩
    obtain ⟨y0, yn0, yc0, y1, yn1, yc1, y2, yn2, yc2, rfl, rfl, rfl⟩ := hO.form
    exact ⟨_, _, _, _, _, _, _, _, _, rfl, hO, hb⟩
  have hMz : szMm ((freshM m k).1) ≤ 1048577 := Nat.le_trans (fresh_sz m k) (by omega)
  have cS : Hid (∀ W y0 yn0 yc0 y1 yn1 yc1 y2 yn2 yc2, RowMm W W.heap.size (.slice y0 yn0 yc0) (.slice y1 yn1 yc1) (.slice y2 yn2 yc2) m → nilOk (.slice y0 yn0 yc0) ∧ nilOk (.slice y1 yn1 yc1) ∧ nilOk (.slice y2 yn2 yc2) → Calls Try.prog 29 #[.agg #[.slice y0 yn0 yc0, .slice y1 yn1 yc1, .slice y2 yn2 yc2, .int .i64 fu, .int .i64 bd], .int .i64 k] W fun e w' => ∃ x0 xn0 xc0 x1 xn1 xc1 x2 xn2 xc2, e = .returned (.tuple #[.agg #[.slice x0 xn0 xc0, .slice x1 xn1 xc1, .slice x2 xn2 xc2, .int .i64 ((freshM m k).1).fuel, .int .i64 ((freshM m k).1).bad], .agg #[.int .i64 (freshM m k).2.1, .int .i64 (freshM m k).2.2]]) ∧ RowMm w' w'.heap.size (.slice x0 xn0 xc0) (.slice x1 xn1 xc1) (.slice x2 xn2 xc2) ((freshM m k).1) ∧ Below W.heap.size W w') := fun W _ _ _ _ _ _ _ _ _ h hn => by
    have := specFresh_any W.heap.size m _ _ _ k W (Nat.le_refl _) h hn (by omega)
    rw [hfu.out, hbd.out] at this
    exact this
  have cI : Hid (∀ W y0 yn0 yc0 y1 yn1 yc1 y2 yn2 yc2, RowMm W W.heap.size (.slice y0 yn0 yc0) (.slice y1 yn1 yc1) (.slice y2 yn2 yc2) m → nilOk (.slice y0 yn0 yc0) ∧ nilOk (.slice y1 yn1 yc1) ∧ nilOk (.slice y2 yn2 yc2) → Calls Try.prog 18 #[.agg #[.slice y0 yn0 yc0, .slice y1 yn1 yc1, .slice y2 yn2 yc2, .int .i64 fu, .int .i64 bd], .int .i64 k] W fun e w' => ∃ x0 xn0 xc0 x1 xn1 xc1 x2 xn2 xc2, e = .returned (.tuple #[.agg #[.slice x0 xn0 xc0, .slice x1 xn1 xc1, .slice x2 xn2 xc2, .int .i64 ((freshM m k).1).fuel, .int .i64 ((freshM m k).1).bad], .agg #[.int .i64 (freshM m k).2.1, .int .i64 (freshM m k).2.2]]) ∧ OwnMm w' W.heap.size w'.heap.size (.slice x0 xn0 xc0) (.slice x1 xn1 xc1) (.slice x2 xn2 xc2) ((freshM m k).1) ∧ Below W.heap.size W w') := fun W _ _ _ _ _ _ _ _ _ h hn => by
    have := implFresh_any W.heap.size m _ _ _ _ _ _ _ _ _ k W (Nat.le_refl _) h hn hl
    rw [hfu.out, hbd.out] at this
    exact this
  have cEm : Hid (∀ W y0 yn0 yc0 y1 yn1 yc1 y2 yn2 yc2 x0 xn0 xc0 x1 xn1 xc1 x2 xn2 xc2, RowMm W W.heap.size (.slice y0 yn0 yc0) (.slice y1 yn1 yc1) (.slice y2 yn2 yc2) m → RowMm W W.heap.size (.slice x0 xn0 xc0) (.slice x1 xn1 xc1) (.slice x2 xn2 xc2) m → Calls Try.prog 46 #[.agg #[.slice y0 yn0 yc0, .slice y1 yn1 yc1, .slice y2 yn2 yc2, .int .i64 fu, .int .i64 bd], .agg #[.slice x0 xn0 xc0, .slice x1 xn1 xc1, .slice x2 xn2 xc2, .int .i64 fu, .int .i64 bd]] W fun e w' => e = .returned (.bool true) ∧ Below W.heap.size W w') := fun W _ _ _ _ _ _ _ _ _ _ _ _ _ _ _ _ _ _ h h' => by
    have := eqMemory_big W.heap.size m _ _ _ _ _ _ W (Nat.le_refl _) h.1 h'.1 h.2.1 h'.2.1 h.2.2 h'.2.2 (by omega)
    rw [hfu.out, hbd.out] at this
    exact this
  have cKm : Hid (∀ W B H y0 yn0 yc0 y1 yn1 yc1 y2 yn2 yc2, OwnMm W B H (.slice y0 yn0 yc0) (.slice y1 yn1 yc1) (.slice y2 yn2 yc2) m → H ≤ W.heap.size → Calls Try.prog 49 #[.agg #[.slice y0 yn0 yc0, .slice y1 yn1 yc1, .slice y2 yn2 yc2, .int .i64 fu, .int .i64 bd], .int .i64 1] W fun e w' => e = .returned (.int .i64 ((lnMm m : Nat) : Int)) ∧ RowMm w' H (.slice y0 yn0 yc0) (.slice y1 yn1 yc1) (.slice y2 yn2 yc2) (mkMm m) ∧ Rim B H W w') := fun W B H _ _ _ _ _ _ _ _ _ h hH => markMemory_any B H _ _ _ fu bd m W h hH (by omega)
  obtain ⟨M, hM⟩ : ∃ M, Hid ((freshM m k).1 = M) := ⟨_, (rfl : (freshM m k).1 = (freshM m k).1)⟩
  rw [hM.out] at cS cI hMz
  obtain ⟨r0, hr0⟩ : ∃ r, Hid ((freshM m k).2.1 = r) := ⟨_, (rfl : (freshM m k).2.1 = _)⟩
  rw [hr0.out] at cS cI
  obtain ⟨r1, hr1⟩ : ∃ r, Hid ((freshM m k).2.2 = r) := ⟨_, (rfl : (freshM m k).2.2 = _)⟩
  rw [hr1.out] at cS cI
  have cE : Hid (∀ W y0 yn0 yc0 y1 yn1 yc1 y2 yn2 yc2 x0 xn0 xc0 x1 xn1 xc1 x2 xn2 xc2, RowMm W W.heap.size (.slice y0 yn0 yc0) (.slice y1 yn1 yc1) (.slice y2 yn2 yc2) M → RowMm W W.heap.size (.slice x0 xn0 xc0) (.slice x1 xn1 xc1) (.slice x2 xn2 xc2) M → Calls Try.prog 46 #[.agg #[.slice y0 yn0 yc0, .slice y1 yn1 yc1, .slice y2 yn2 yc2, .int .i64 M.fuel, .int .i64 M.bad], .agg #[.slice x0 xn0 xc0, .slice x1 xn1 xc1, .slice x2 xn2 xc2, .int .i64 M.fuel, .int .i64 M.bad]] W fun e w' => e = .returned (.bool true) ∧ Below W.heap.size W w') := fun W _ _ _ _ _ _ _ _ _ _ _ _ _ _ _ _ _ _ h h' =>
    eqMemory_big W.heap.size M _ _ _ _ _ _ W (Nat.le_refl _) h.1 h'.1 h.2.1 h'.2.1 h.2.2 h'.2.2 (by omega)
  have cK : Hid (∀ W B H y0 yn0 yc0 y1 yn1 yc1 y2 yn2 yc2, OwnMm W B H (.slice y0 yn0 yc0) (.slice y1 yn1 yc1) (.slice y2 yn2 yc2) M → H ≤ W.heap.size → Calls Try.prog 49 #[.agg #[.slice y0 yn0 yc0, .slice y1 yn1 yc1, .slice y2 yn2 yc2, .int .i64 M.fuel, .int .i64 M.bad], .int .i64 1] W fun e w' => e = .returned (.int .i64 ((lnMm M : Nat) : Int)) ∧ RowMm w' H (.slice y0 yn0 yc0) (.slice y1 yn1 yc1) (.slice y2 yn2 yc2) (mkMm M) ∧ Rim B H W w') := fun W B H _ _ _ _ _ _ _ _ _ h hH => markMemory_any B H _ _ _ M.fuel M.bad M W h hH (by omega)
  have cH : Hid (∀ W y0 yn0 yc0 y1 yn1 yc1 y2 yn2 yc2, RowMm W W.heap.size (.slice y0 yn0 yc0) (.slice y1 yn1 yc1) (.slice y2 yn2 yc2) (mkMm M) → Calls Try.prog 50 #[.agg #[.slice y0 yn0 yc0, .slice y1 yn1 yc1, .slice y2 yn2 yc2, .int .i64 M.fuel, .int .i64 M.bad], .int .i64 1] W fun e w' => e = .returned (.int .i64 ((lnMm M : Nat) : Int)) ∧ Below W.heap.size W w') := fun W _ _ _ _ _ _ _ _ _ h => heldMemory_any W.heap.size _ _ _ M.fuel M.bad M W (Nat.le_refl _) h (by omega)
  have hlm : ¬ ((lnMm m : Nat) : Int) < 0 ∧ ¬ ((lnMm M : Nat) : Int) < 0 := by omega
  obtain ⟨hlm1, hlm2⟩ := hlm
  obtain ⟨lm, hlmE⟩ : ∃ l, Hid (lnMm m = l) := ⟨_, (rfl : lnMm m = lnMm m)⟩
  obtain ⟨lM, hlME⟩ : ∃ l, Hid (lnMm M = l) := ⟨_, (rfl : lnMm M = lnMm M)⟩
  rw [hlmE.out] at cKm hlm1
  rw [hlME.out] at cK cH hlm2
  clear hl hr0 hr1 hMz
  have HA_w1 : Hid (w1.heap[w.heap.size]? = some (.cells #[a0, a1, a2, .int .i64 fu, .int .i64 bd] 58 (0, 0))) := B1.out.at_ 0 _ rfl
  have BL_w1 : Hid (Below w.heap.size w w1) := B1.out.low
  have z_w1 : w.heap.size + 1 ≤ w1.heap.size := B1.out.size
  clear B1
  have kA0 : w1.cell? ⟨w.heap.size, 0, none⟩ = some (a0) := cell_at HA_w1.out 0
  have kA1 : w1.cell? ⟨w.heap.size, 1, none⟩ = some (a1) := cell_at HA_w1.out 1
  have kA2 : w1.cell? ⟨w.heap.size, 2, none⟩ = some (a2) := cell_at HA_w1.out 2
  have kA3 : w1.cell? ⟨w.heap.size, 3, none⟩ = some (.int .i64 fu) := cell_at HA_w1.out 3
  have kA4 : w1.cell? ⟨w.heap.size, 4, none⟩ = some (.int .i64 bd) := cell_at HA_w1.out 4
  go_wp2_with fail
  go_at_call 52
  refine Calls.mono (cT.out _ BL_w1.out) ?_
  rintro e wA ⟨p0, pn0, pc0, p1, pn1, pc1, p2, pn2, pc2, rfl, hO, hb⟩
  have HA_wA : Hid (wA.heap[w.heap.size]? = some (.cells #[a0, a1, a2, .int .i64 fu, .int .i64 bd] 58 (0, 0))) := stay1 HA_w1.out hb
  have z_wA : w1.heap.size ≤ wA.heap.size := hb.size
  have BL_wA : Hid (Below w.heap.size w wA) := BL_w1.out.trans (hb.mono BL_w1.out.size)
  have P_wA : Hid (RowMm wA wA.heap.size (.slice p0 pn0 pc0) (.slice p1 pn1 pc1) (.slice p2 pn2 pc2) m) := hO.row
  have PN : Hid (nilOk (.slice p0 pn0 pc0) ∧ nilOk (.slice p1 pn1 pc1) ∧ nilOk (.slice p2 pn2 pc2)) := hO.nils
  clear kA0 kA1 kA2 kA3 kA4
  clear hO hb
  clear HA_w1 BL_w1
  go_wp2_with fail
  go_at_call 29
  refine Calls.mono (cS.out _ _ _ _ _ _ _ _ _ _ (P_wA.out.up (by omega)) PN.out) ?_
  rintro e wB ⟨s0, sn0, sc0, s1, sn1, sc1, s2, sn2, sc2, rfl, hR, hb⟩
  have HA_wB : Hid (wB.heap[w.heap.size]? = some (.cells #[a0, a1, a2, .int .i64 fu, .int .i64 bd] 58 (0, 0))) := stay1 HA_wA.out hb
  have z_wB : wA.heap.size ≤ wB.heap.size := hb.size
  have BL_wB : Hid (Below w.heap.size w wB) := BL_wA.out.trans (hb.mono BL_wA.out.size)
  have P_wB : Hid (RowMm wB wA.heap.size (.slice p0 pn0 pc0) (.slice p1 pn1 pc1) (.slice p2 pn2 pc2) m) := P_wA.out.keep (hb.mono (by omega))
  have S_wB : Hid (RowMm wB wB.heap.size (.slice s0 sn0 sc0) (.slice s1 sn1 sc1) (.slice s2 sn2 sc2) M) := hR
  clear hb hR PN
  clear HA_wA BL_wA P_wA
  clear P_wB
  have kA0 : wB.cell? ⟨w.heap.size, 0, none⟩ = some (a0) := cell_at HA_wB.out 0
  have kA1 : wB.cell? ⟨w.heap.size, 1, none⟩ = some (a1) := cell_at HA_wB.out 1
  have kA2 : wB.cell? ⟨w.heap.size, 2, none⟩ = some (a2) := cell_at HA_wB.out 2
  have kA3 : wB.cell? ⟨w.heap.size, 3, none⟩ = some (.int .i64 fu) := cell_at HA_wB.out 3
  have kA4 : wB.cell? ⟨w.heap.size, 4, none⟩ = some (.int .i64 bd) := cell_at HA_wB.out 4
  have lA_wB : w.heap.size < wB.heap.size := heap_lt HA_wB.out
  go_wp2_with fail
  clear kA0 kA1 kA2 kA3 kA4
  have hbx : Below wB.heap.size wB ((wB.alloc (.cells #[.slice s0 sn0 sc0, .slice s1 sn1 sc1, .slice s2 sn2 sc2, .int .i64 M.fuel, .int .i64 M.bad] 27 (0, 0))).alloc (.cells #[.int .i64 r0, .int .i64 r1] 31 (0, 0))) := by go_grown
  have HA_W2 : Hid (((wB.alloc (.cells #[.slice s0 sn0 sc0, .slice s1 sn1 sc1, .slice s2 sn2 sc2, .int .i64 M.fuel, .int .i64 M.bad] 27 (0, 0))).alloc (.cells #[.int .i64 r0, .int .i64 r1] 31 (0, 0))).heap[w.heap.size]? = some (.cells #[a0, a1, a2, .int .i64 fu, .int .i64 bd] 58 (0, 0))) := stay1 HA_wB.out hbx
  have z_W2 : wB.heap.size ≤ ((wB.alloc (.cells #[.slice s0 sn0 sc0, .slice s1 sn1 sc1, .slice s2 sn2 sc2, .int .i64 M.fuel, .int .i64 M.bad] 27 (0, 0))).alloc (.cells #[.int .i64 r0, .int .i64 r1] 31 (0, 0))).heap.size := hbx.size
  have BL_W2 : Hid (Below w.heap.size w ((wB.alloc (.cells #[.slice s0 sn0 sc0, .slice s1 sn1 sc1, .slice s2 sn2 sc2, .int .i64 M.fuel, .int .i64 M.bad] 27 (0, 0))).alloc (.cells #[.int .i64 r0, .int .i64 r1] 31 (0, 0)))) := BL_wB.out.trans (hbx.mono BL_wB.out.size)
  have S_W2 : Hid (RowMm ((wB.alloc (.cells #[.slice s0 sn0 sc0, .slice s1 sn1 sc1, .slice s2 sn2 sc2, .int .i64 M.fuel, .int .i64 M.bad] 27 (0, 0))).alloc (.cells #[.int .i64 r0, .int .i64 r1] 31 (0, 0))) wB.heap.size (.slice s0 sn0 sc0) (.slice s1 sn1 sc1) (.slice s2 sn2 sc2) M) := S_wB.out.keep (hbx.mono (by omega))
  have HS_W2 : Hid (((wB.alloc (.cells #[.slice s0 sn0 sc0, .slice s1 sn1 sc1, .slice s2 sn2 sc2, .int .i64 M.fuel, .int .i64 M.bad] 27 (0, 0))).alloc (.cells #[.int .i64 r0, .int .i64 r1] 31 (0, 0))).heap[wB.heap.size]? = some (.cells #[.slice s0 sn0 sc0, .slice s1 sn1 sc1, .slice s2 sn2 sc2, .int .i64 M.fuel, .int .i64 M.bad] 27 (0, 0))) := fst_new _ _ _
  have HSV_W2 : Hid (((wB.alloc (.cells #[.slice s0 sn0 sc0, .slice s1 sn1 sc1, .slice s2 sn2 sc2, .int .i64 M.fuel, .int .i64 M.bad] 27 (0, 0))).alloc (.cells #[.int .i64 r0, .int .i64 r1] 31 (0, 0))).heap[wB.heap.size + 1]? = some (.cells #[.int .i64 r0, .int .i64 r1] 31 (0, 0))) := snd_new _ _ _
  have zs_W2 : ((wB.alloc (.cells #[.slice s0 sn0 sc0, .slice s1 sn1 sc1, .slice s2 sn2 sc2, .int .i64 M.fuel, .int .i64 M.bad] 27 (0, 0))).alloc (.cells #[.int .i64 r0, .int .i64 r1] 31 (0, 0))).heap.size = wB.heap.size + 2 := by simp
  clear hbx
  clear HA_wB BL_wB S_wB
  generalize ((wB.alloc (.cells #[.slice s0 sn0 sc0, .slice s1 sn1 sc1, .slice s2 sn2 sc2, .int .i64 M.fuel, .int .i64 M.bad] 27 (0, 0))).alloc (.cells #[.int .i64 r0, .int .i64 r1] 31 (0, 0))) = W2 at HA_W2 HS_W2 HSV_W2 BL_W2 z_W2 zs_W2 S_W2 ⊢
  go_at_call 52
  refine Calls.mono (cT.out _ BL_W2.out) ?_
  rintro e wC ⟨x0, xn0, xc0, x1, xn1, xc1, x2, xn2, xc2, rfl, hO, hb⟩
  have HA_wC : Hid (wC.heap[w.heap.size]? = some (.cells #[a0, a1, a2, .int .i64 fu, .int .i64 bd] 58 (0, 0))) := stay1 HA_W2.out hb
  have HS_wC : Hid (wC.heap[wB.heap.size]? = some (.cells #[.slice s0 sn0 sc0, .slice s1 sn1 sc1, .slice s2 sn2 sc2, .int .i64 M.fuel, .int .i64 M.bad] 27 (0, 0))) := stay1 HS_W2.out hb
  have HSV_wC : Hid (wC.heap[wB.heap.size + 1]? = some (.cells #[.int .i64 r0, .int .i64 r1] 31 (0, 0))) := stay1 HSV_W2.out hb
  have z_wC : W2.heap.size ≤ wC.heap.size := hb.size
  have BL_wC : Hid (Below w.heap.size w wC) := BL_W2.out.trans (hb.mono BL_W2.out.size)
  have S_wC : Hid (RowMm wC wB.heap.size (.slice s0 sn0 sc0) (.slice s1 sn1 sc1) (.slice s2 sn2 sc2) M) := S_W2.out.keep (hb.mono (by omega))
  have X_wC : Hid (OwnMm wC W2.heap.size wC.heap.size (.slice x0 xn0 xc0) (.slice x1 xn1 xc1) (.slice x2 xn2 xc2) m) := hO
  clear hO hb
  clear HA_W2 HS_W2 HSV_W2 BL_W2 S_W2
  go_wp2_with fail
  have hbx : Below wC.heap.size wC (wC.alloc (.cells #[.slice x0 xn0 xc0, .slice x1 xn1 xc1, .slice x2 xn2 xc2, .int .i64 fu, .int .i64 bd] 27 (0, 0))) := by go_grown
  have HA_W3 : Hid ((wC.alloc (.cells #[.slice x0 xn0 xc0, .slice x1 xn1 xc1, .slice x2 xn2 xc2, .int .i64 fu, .int .i64 bd] 27 (0, 0))).heap[w.heap.size]? = some (.cells #[a0, a1, a2, .int .i64 fu, .int .i64 bd] 58 (0, 0))) := stay1 HA_wC.out hbx
  have HS_W3 : Hid ((wC.alloc (.cells #[.slice x0 xn0 xc0, .slice x1 xn1 xc1, .slice x2 xn2 xc2, .int .i64 fu, .int .i64 bd] 27 (0, 0))).heap[wB.heap.size]? = some (.cells #[.slice s0 sn0 sc0, .slice s1 sn1 sc1, .slice s2 sn2 sc2, .int .i64 M.fuel, .int .i64 M.bad] 27 (0, 0))) := stay1 HS_wC.out hbx
  have HSV_W3 : Hid ((wC.alloc (.cells #[.slice x0 xn0 xc0, .slice x1 xn1 xc1, .slice x2 xn2 xc2, .int .i64 fu, .int .i64 bd] 27 (0, 0))).heap[wB.heap.size + 1]? = some (.cells #[.int .i64 r0, .int .i64 r1] 31 (0, 0))) := stay1 HSV_wC.out hbx
  have z_W3 : wC.heap.size ≤ (wC.alloc (.cells #[.slice x0 xn0 xc0, .slice x1 xn1 xc1, .slice x2 xn2 xc2, .int .i64 fu, .int .i64 bd] 27 (0, 0))).heap.size := hbx.size
  have BL_W3 : Hid (Below w.heap.size w (wC.alloc (.cells #[.slice x0 xn0 xc0, .slice x1 xn1 xc1, .slice x2 xn2 xc2, .int .i64 fu, .int .i64 bd] 27 (0, 0)))) := BL_wC.out.trans (hbx.mono BL_wC.out.size)
  have S_W3 : Hid (RowMm (wC.alloc (.cells #[.slice x0 xn0 xc0, .slice x1 xn1 xc1, .slice x2 xn2 xc2, .int .i64 fu, .int .i64 bd] 27 (0, 0))) wB.heap.size (.slice s0 sn0 sc0) (.slice s1 sn1 sc1) (.slice s2 sn2 sc2) M) := S_wC.out.keep (hbx.mono (by omega))
  have X_W3 : Hid (OwnMm (wC.alloc (.cells #[.slice x0 xn0 xc0, .slice x1 xn1 xc1, .slice x2 xn2 xc2, .int .i64 fu, .int .i64 bd] 27 (0, 0))) W2.heap.size wC.heap.size (.slice x0 xn0 xc0) (.slice x1 xn1 xc1) (.slice x2 xn2 xc2) m) := X_wC.out.move (Nat.le_refl _) (fun g _ hg => hbx.block g (by omega))
  have HX_W3 : Hid ((wC.alloc (.cells #[.slice x0 xn0 xc0, .slice x1 xn1 xc1, .slice x2 xn2 xc2, .int .i64 fu, .int .i64 bd] 27 (0, 0))).heap[wC.heap.size]? = some (.cells #[.slice x0 xn0 xc0, .slice x1 xn1 xc1, .slice x2 xn2 xc2, .int .i64 fu, .int .i64 bd] 27 (0, 0))) := heap_alloc_new _ _
  have zs_W3 : (wC.alloc (.cells #[.slice x0 xn0 xc0, .slice x1 xn1 xc1, .slice x2 xn2 xc2, .int .i64 fu, .int .i64 bd] 27 (0, 0))).heap.size = wC.heap.size + 1 := by simp
  clear hbx
  clear HA_wC HS_wC HSV_wC BL_wC S_wC X_wC
  generalize (wC.alloc (.cells #[.slice x0 xn0 xc0, .slice x1 xn1 xc1, .slice x2 xn2 xc2, .int .i64 fu, .int .i64 bd] 27 (0, 0))) = W3 at HA_W3 HS_W3 HSV_W3 HX_W3 BL_W3 z_W3 zs_W3 S_W3 X_W3 ⊢
  go_at_call 18
  refine Calls.mono (cI.out _ _ _ _ _ _ _ _ _ _ (X_W3.out.row.up (by omega)) X_W3.out.nils) ?_
  rintro e wD ⟨g0, gn0, gc0, g1, gn1, gc1, g2, gn2, gc2, rfl, hO, hb⟩
  have HA_wD : Hid (wD.heap[w.heap.size]? = some (.cells #[a0, a1, a2, .int .i64 fu, .int .i64 bd] 58 (0, 0))) := stay1 HA_W3.out hb
  have HS_wD : Hid (wD.heap[wB.heap.size]? = some (.cells #[.slice s0 sn0 sc0, .slice s1 sn1 sc1, .slice s2 sn2 sc2, .int .i64 M.fuel, .int .i64 M.bad] 27 (0, 0))) := stay1 HS_W3.out hb
  have HSV_wD : Hid (wD.heap[wB.heap.size + 1]? = some (.cells #[.int .i64 r0, .int .i64 r1] 31 (0, 0))) := stay1 HSV_W3.out hb
  have HX_wD : Hid (wD.heap[wC.heap.size]? = some (.cells #[.slice x0 xn0 xc0, .slice x1 xn1 xc1, .slice x2 xn2 xc2, .int .i64 fu, .int .i64 bd] 27 (0, 0))) := stay1 HX_W3.out hb
  have z_wD : W3.heap.size ≤ wD.heap.size := hb.size
  have BL_wD : Hid (Below w.heap.size w wD) := BL_W3.out.trans (hb.mono BL_W3.out.size)
  have S_wD : Hid (RowMm wD wB.heap.size (.slice s0 sn0 sc0) (.slice s1 sn1 sc1) (.slice s2 sn2 sc2) M) := S_W3.out.keep (hb.mono (by omega))
  have X_wD : Hid (OwnMm wD W2.heap.size wC.heap.size (.slice x0 xn0 xc0) (.slice x1 xn1 xc1) (.slice x2 xn2 xc2) m) := X_W3.out.move (Nat.le_refl _) (fun g _ hg => hb.block g (by omega))
  have G_wD : Hid (OwnMm wD W3.heap.size wD.heap.size (.slice g0 gn0 gc0) (.slice g1 gn1 gc1) (.slice g2 gn2 gc2) M) := hO
  clear hO hb
  clear HA_W3 HS_W3 HSV_W3 HX_W3 BL_W3 S_W3 X_W3
  have kS0 : wD.cell? ⟨wB.heap.size, 0, none⟩ = some (.slice s0 sn0 sc0) := cell_at HS_wD.out 0
  have kS1 : wD.cell? ⟨wB.heap.size, 1, none⟩ = some (.slice s1 sn1 sc1) := cell_at HS_wD.out 1
  have kS2 : wD.cell? ⟨wB.heap.size, 2, none⟩ = some (.slice s2 sn2 sc2) := cell_at HS_wD.out 2
  have kS3 : wD.cell? ⟨wB.heap.size, 3, none⟩ = some (.int .i64 M.fuel) := cell_at HS_wD.out 3
  have kS4 : wD.cell? ⟨wB.heap.size, 4, none⟩ = some (.int .i64 M.bad) := cell_at HS_wD.out 4
  have lS_wD : wB.heap.size < wD.heap.size := heap_lt HS_wD.out
  go_wp2_with fail
  clear kS0 kS1 kS2 kS3 kS4
  have hbx : Below wD.heap.size wD ((wD.alloc (.cells #[.slice g0 gn0 gc0, .slice g1 gn1 gc1, .slice g2 gn2 gc2, .int .i64 M.fuel, .int .i64 M.bad] 27 (0, 0))).alloc (.cells #[.int .i64 r0, .int .i64 r1] 31 (0, 0))) := by go_grown
  have HA_W4 : Hid (((wD.alloc (.cells #[.slice g0 gn0 gc0, .slice g1 gn1 gc1, .slice g2 gn2 gc2, .int .i64 M.fuel, .int .i64 M.bad] 27 (0, 0))).alloc (.cells #[.int .i64 r0, .int .i64 r1] 31 (0, 0))).heap[w.heap.size]? = some (.cells #[a0, a1, a2, .int .i64 fu, .int .i64 bd] 58 (0, 0))) := stay1 HA_wD.out hbx
  have HS_W4 : Hid (((wD.alloc (.cells #[.slice g0 gn0 gc0, .slice g1 gn1 gc1, .slice g2 gn2 gc2, .int .i64 M.fuel, .int .i64 M.bad] 27 (0, 0))).alloc (.cells #[.int .i64 r0, .int .i64 r1] 31 (0, 0))).heap[wB.heap.size]? = some (.cells #[.slice s0 sn0 sc0, .slice s1 sn1 sc1, .slice s2 sn2 sc2, .int .i64 M.fuel, .int .i64 M.bad] 27 (0, 0))) := stay1 HS_wD.out hbx
  have HSV_W4 : Hid (((wD.alloc (.cells #[.slice g0 gn0 gc0, .slice g1 gn1 gc1, .slice g2 gn2 gc2, .int .i64 M.fuel, .int .i64 M.bad] 27 (0, 0))).alloc (.cells #[.int .i64 r0, .int .i64 r1] 31 (0, 0))).heap[wB.heap.size + 1]? = some (.cells #[.int .i64 r0, .int .i64 r1] 31 (0, 0))) := stay1 HSV_wD.out hbx
  have HX_W4 : Hid (((wD.alloc (.cells #[.slice g0 gn0 gc0, .slice g1 gn1 gc1, .slice g2 gn2 gc2, .int .i64 M.fuel, .int .i64 M.bad] 27 (0, 0))).alloc (.cells #[.int .i64 r0, .int .i64 r1] 31 (0, 0))).heap[wC.heap.size]? = some (.cells #[.slice x0 xn0 xc0, .slice x1 xn1 xc1, .slice x2 xn2 xc2, .int .i64 fu, .int .i64 bd] 27 (0, 0))) := stay1 HX_wD.out hbx
  have z_W4 : wD.heap.size ≤ ((wD.alloc (.cells #[.slice g0 gn0 gc0, .slice g1 gn1 gc1, .slice g2 gn2 gc2, .int .i64 M.fuel, .int .i64 M.bad] 27 (0, 0))).alloc (.cells #[.int .i64 r0, .int .i64 r1] 31 (0, 0))).heap.size := hbx.size
  have BL_W4 : Hid (Below w.heap.size w ((wD.alloc (.cells #[.slice g0 gn0 gc0, .slice g1 gn1 gc1, .slice g2 gn2 gc2, .int .i64 M.fuel, .int .i64 M.bad] 27 (0, 0))).alloc (.cells #[.int .i64 r0, .int .i64 r1] 31 (0, 0)))) := BL_wD.out.trans (hbx.mono BL_wD.out.size)
  have S_W4 : Hid (RowMm ((wD.alloc (.cells #[.slice g0 gn0 gc0, .slice g1 gn1 gc1, .slice g2 gn2 gc2, .int .i64 M.fuel, .int .i64 M.bad] 27 (0, 0))).alloc (.cells #[.int .i64 r0, .int .i64 r1] 31 (0, 0))) wB.heap.size (.slice s0 sn0 sc0) (.slice s1 sn1 sc1) (.slice s2 sn2 sc2) M) := S_wD.out.keep (hbx.mono (by omega))
  have X_W4 : Hid (OwnMm ((wD.alloc (.cells #[.slice g0 gn0 gc0, .slice g1 gn1 gc1, .slice g2 gn2 gc2, .int .i64 M.fuel, .int .i64 M.bad] 27 (0, 0))).alloc (.cells #[.int .i64 r0, .int .i64 r1] 31 (0, 0))) W2.heap.size wC.heap.size (.slice x0 xn0 xc0) (.slice x1 xn1 xc1) (.slice x2 xn2 xc2) m) := X_wD.out.move (Nat.le_refl _) (fun g _ hg => hbx.block g (by omega))
  have G_W4 : Hid (OwnMm ((wD.alloc (.cells #[.slice g0 gn0 gc0, .slice g1 gn1 gc1, .slice g2 gn2 gc2, .int .i64 M.fuel, .int .i64 M.bad] 27 (0, 0))).alloc (.cells #[.int .i64 r0, .int .i64 r1] 31 (0, 0))) W3.heap.size wD.heap.size (.slice g0 gn0 gc0) (.slice g1 gn1 gc1) (.slice g2 gn2 gc2) M) := G_wD.out.move (Nat.le_refl _) (fun g _ hg => hbx.block g (by omega))
  have HG_W4 : Hid (((wD.alloc (.cells #[.slice g0 gn0 gc0, .slice g1 gn1 gc1, .slice g2 gn2 gc2, .int .i64 M.fuel, .int .i64 M.bad] 27 (0, 0))).alloc (.cells #[.int .i64 r0, .int .i64 r1] 31 (0, 0))).heap[wD.heap.size]? = some (.cells #[.slice g0 gn0 gc0, .slice g1 gn1 gc1, .slice g2 gn2 gc2, .int .i64 M.fuel, .int .i64 M.bad] 27 (0, 0))) := fst_new _ _ _
  have HGV_W4 : Hid (((wD.alloc (.cells #[.slice g0 gn0 gc0, .slice g1 gn1 gc1, .slice g2 gn2 gc2, .int .i64 M.fuel, .int .i64 M.bad] 27 (0, 0))).alloc (.cells #[.int .i64 r0, .int .i64 r1] 31 (0, 0))).heap[wD.heap.size + 1]? = some (.cells #[.int .i64 r0, .int .i64 r1] 31 (0, 0))) := snd_new _ _ _
  have zs_W4 : ((wD.alloc (.cells #[.slice g0 gn0 gc0, .slice g1 gn1 gc1, .slice g2 gn2 gc2, .int .i64 M.fuel, .int .i64 M.bad] 27 (0, 0))).alloc (.cells #[.int .i64 r0, .int .i64 r1] 31 (0, 0))).heap.size = wD.heap.size + 2 := by simp
  clear hbx
  clear HA_wD HS_wD HSV_wD HX_wD BL_wD S_wD X_wD G_wD
  generalize ((wD.alloc (.cells #[.slice g0 gn0 gc0, .slice g1 gn1 gc1, .slice g2 gn2 gc2, .int .i64 M.fuel, .int .i64 M.bad] 27 (0, 0))).alloc (.cells #[.int .i64 r0, .int .i64 r1] 31 (0, 0))) = W4 at HA_W4 HS_W4 HSV_W4 HX_W4 HG_W4 HGV_W4 BL_W4 z_W4 zs_W4 S_W4 X_W4 G_W4 ⊢
  have kG0 : W4.cell? ⟨wD.heap.size, 0, none⟩ = some (.slice g0 gn0 gc0) := cell_at HG_W4.out 0
  have kG1 : W4.cell? ⟨wD.heap.size, 1, none⟩ = some (.slice g1 gn1 gc1) := cell_at HG_W4.out 1
  have kG2 : W4.cell? ⟨wD.heap.size, 2, none⟩ = some (.slice g2 gn2 gc2) := cell_at HG_W4.out 2
  have kG3 : W4.cell? ⟨wD.heap.size, 3, none⟩ = some (.int .i64 M.fuel) := cell_at HG_W4.out 3
  have kG4 : W4.cell? ⟨wD.heap.size, 4, none⟩ = some (.int .i64 M.bad) := cell_at HG_W4.out 4
  have kS0 : W4.cell? ⟨wB.heap.size, 0, none⟩ = some (.slice s0 sn0 sc0) := cell_at HS_W4.out 0
  have kS1 : W4.cell? ⟨wB.heap.size, 1, none⟩ = some (.slice s1 sn1 sc1) := cell_at HS_W4.out 1
  have kS2 : W4.cell? ⟨wB.heap.size, 2, none⟩ = some (.slice s2 sn2 sc2) := cell_at HS_W4.out 2
  have kS3 : W4.cell? ⟨wB.heap.size, 3, none⟩ = some (.int .i64 M.fuel) := cell_at HS_W4.out 3
  have kS4 : W4.cell? ⟨wB.heap.size, 4, none⟩ = some (.int .i64 M.bad) := cell_at HS_W4.out 4
  go_at_call 46
  refine Calls.mono (cE.out _ _ _ _ _ _ _ _ _ _ _ _ _ _ _ _ _ _ _ (G_W4.out.row.up (by omega)) (S_W4.out.up (by omega))) ?_
  rintro e wE ⟨rfl, hb⟩
  have HA_wE : Hid (wE.heap[w.heap.size]? = some (.cells #[a0, a1, a2, .int .i64 fu, .int .i64 bd] 58 (0, 0))) := stay1 HA_W4.out hb
  have HS_wE : Hid (wE.heap[wB.heap.size]? = some (.cells #[.slice s0 sn0 sc0, .slice s1 sn1 sc1, .slice s2 sn2 sc2, .int .i64 M.fuel, .int .i64 M.bad] 27 (0, 0))) := stay1 HS_W4.out hb
  have HSV_wE : Hid (wE.heap[wB.heap.size + 1]? = some (.cells #[.int .i64 r0, .int .i64 r1] 31 (0, 0))) := stay1 HSV_W4.out hb
  have HX_wE : Hid (wE.heap[wC.heap.size]? = some (.cells #[.slice x0 xn0 xc0, .slice x1 xn1 xc1, .slice x2 xn2 xc2, .int .i64 fu, .int .i64 bd] 27 (0, 0))) := stay1 HX_W4.out hb
  have HG_wE : Hid (wE.heap[wD.heap.size]? = some (.cells #[.slice g0 gn0 gc0, .slice g1 gn1 gc1, .slice g2 gn2 gc2, .int .i64 M.fuel, .int .i64 M.bad] 27 (0, 0))) := stay1 HG_W4.out hb
  have HGV_wE : Hid (wE.heap[wD.heap.size + 1]? = some (.cells #[.int .i64 r0, .int .i64 r1] 31 (0, 0))) := stay1 HGV_W4.out hb
  have z_wE : W4.heap.size ≤ wE.heap.size := hb.size
  have BL_wE : Hid (Below w.heap.size w wE) := BL_W4.out.trans (hb.mono BL_W4.out.size)
  have S_wE : Hid (RowMm wE wB.heap.size (.slice s0 sn0 sc0) (.slice s1 sn1 sc1) (.slice s2 sn2 sc2) M) := S_W4.out.keep (hb.mono (by omega))
  have X_wE : Hid (OwnMm wE W2.heap.size wC.heap.size (.slice x0 xn0 xc0) (.slice x1 xn1 xc1) (.slice x2 xn2 xc2) m) := X_W4.out.move (Nat.le_refl _) (fun g _ hg => hb.block g (by omega))
  have G_wE : Hid (OwnMm wE W3.heap.size wD.heap.size (.slice g0 gn0 gc0) (.slice g1 gn1 gc1) (.slice g2 gn2 gc2) M) := G_W4.out.move (Nat.le_refl _) (fun g _ hg => hb.block g (by omega))
  clear hb
  clear HA_W4 HS_W4 HSV_W4 HX_W4 HG_W4 HGV_W4 BL_W4 S_W4 X_W4 G_W4
  clear kG0 kG1 kG2 kG3 kG4 kS0 kS1 kS2 kS3 kS4
  have kGV0 : wE.cell? ⟨wD.heap.size + 1, 0, none⟩ = some (.int .i64 r0) := cell_at HGV_wE.out 0
  have kGV1 : wE.cell? ⟨wD.heap.size + 1, 1, none⟩ = some (.int .i64 r1) := cell_at HGV_wE.out 1
  have kSV0 : wE.cell? ⟨wB.heap.size + 1, 0, none⟩ = some (.int .i64 r0) := cell_at HSV_wE.out 0
  have kSV1 : wE.cell? ⟨wB.heap.size + 1, 1, none⟩ = some (.int .i64 r1) := cell_at HSV_wE.out 1
  go_wp2_with fail
  go_at_call 53
  refine Calls.mono (eqValue_is _ _ _) ?_
  rintro e wE2 ⟨rfl, hb⟩
  have HA_wE2 : Hid (wE2.heap[w.heap.size]? = some (.cells #[a0, a1, a2, .int .i64 fu, .int .i64 bd] 58 (0, 0))) := stay1 HA_wE.out hb
  have HS_wE2 : Hid (wE2.heap[wB.heap.size]? = some (.cells #[.slice s0 sn0 sc0, .slice s1 sn1 sc1, .slice s2 sn2 sc2, .int .i64 M.fuel, .int .i64 M.bad] 27 (0, 0))) := stay1 HS_wE.out hb
  have HSV_wE2 : Hid (wE2.heap[wB.heap.size + 1]? = some (.cells #[.int .i64 r0, .int .i64 r1] 31 (0, 0))) := stay1 HSV_wE.out hb
  have HX_wE2 : Hid (wE2.heap[wC.heap.size]? = some (.cells #[.slice x0 xn0 xc0, .slice x1 xn1 xc1, .slice x2 xn2 xc2, .int .i64 fu, .int .i64 bd] 27 (0, 0))) := stay1 HX_wE.out hb
  have HG_wE2 : Hid (wE2.heap[wD.heap.size]? = some (.cells #[.slice g0 gn0 gc0, .slice g1 gn1 gc1, .slice g2 gn2 gc2, .int .i64 M.fuel, .int .i64 M.bad] 27 (0, 0))) := stay1 HG_wE.out hb
  have HGV_wE2 : Hid (wE2.heap[wD.heap.size + 1]? = some (.cells #[.int .i64 r0, .int .i64 r1] 31 (0, 0))) := stay1 HGV_wE.out hb
  have z_wE2 : wE.heap.size ≤ wE2.heap.size := hb.size
  have BL_wE2 : Hid (Below w.heap.size w wE2) := BL_wE.out.trans (hb.mono BL_wE.out.size)
  have S_wE2 : Hid (RowMm wE2 wB.heap.size (.slice s0 sn0 sc0) (.slice s1 sn1 sc1) (.slice s2 sn2 sc2) M) := S_wE.out.keep (hb.mono (by omega))
  have X_wE2 : Hid (OwnMm wE2 W2.heap.size wC.heap.size (.slice x0 xn0 xc0) (.slice x1 xn1 xc1) (.slice x2 xn2 xc2) m) := X_wE.out.move (Nat.le_refl _) (fun g _ hg => hb.block g (by omega))
  have G_wE2 : Hid (OwnMm wE2 W3.heap.size wD.heap.size (.slice g0 gn0 gc0) (.slice g1 gn1 gc1) (.slice g2 gn2 gc2) M) := G_wE.out.move (Nat.le_refl _) (fun g _ hg => hb.block g (by omega))
  clear hb
  clear kGV0 kGV1 kSV0 kSV1
  clear HA_wE HS_wE HSV_wE HX_wE HG_wE HGV_wE BL_wE S_wE X_wE G_wE
  have kX0 : wE2.cell? ⟨wC.heap.size, 0, none⟩ = some (.slice x0 xn0 xc0) := cell_at HX_wE2.out 0
  have kX1 : wE2.cell? ⟨wC.heap.size, 1, none⟩ = some (.slice x1 xn1 xc1) := cell_at HX_wE2.out 1
  have kX2 : wE2.cell? ⟨wC.heap.size, 2, none⟩ = some (.slice x2 xn2 xc2) := cell_at HX_wE2.out 2
  have kX3 : wE2.cell? ⟨wC.heap.size, 3, none⟩ = some (.int .i64 fu) := cell_at HX_wE2.out 3
  have kX4 : wE2.cell? ⟨wC.heap.size, 4, none⟩ = some (.int .i64 bd) := cell_at HX_wE2.out 4
  have kA0 : wE2.cell? ⟨w.heap.size, 0, none⟩ = some (a0) := cell_at HA_wE2.out 0
  have kA1 : wE2.cell? ⟨w.heap.size, 1, none⟩ = some (a1) := cell_at HA_wE2.out 1
  have kA2 : wE2.cell? ⟨w.heap.size, 2, none⟩ = some (a2) := cell_at HA_wE2.out 2
  have kA3 : wE2.cell? ⟨w.heap.size, 3, none⟩ = some (.int .i64 fu) := cell_at HA_wE2.out 3
  have kA4 : wE2.cell? ⟨w.heap.size, 4, none⟩ = some (.int .i64 bd) := cell_at HA_wE2.out 4
  go_wp2_with fail
  have cXF : Hid (∀ w', Below wE2.heap.size wE2.drew w' → RowMm w' w'.heap.size (.slice x0 xn0 xc0) (.slice x1 xn1 xc1) (.slice x2 xn2 xc2) m) := fun w' h => (X_wE2.out.row.keep (((Below.refl _ wE2).drew).trans (h.mono (by omega)))).up (by have h9 := h.size; have h8 : wE2.drew.heap.size = wE2.heap.size := rfl; omega)
  have kd : (wE2.drew.cell? ⟨wC.heap.size, 0, none⟩ = some (.slice x0 xn0 xc0) ∧ wE2.drew.cell? ⟨wC.heap.size, 1, none⟩ = some (.slice x1 xn1 xc1) ∧ wE2.drew.cell? ⟨wC.heap.size, 2, none⟩ = some (.slice x2 xn2 xc2) ∧ wE2.drew.cell? ⟨wC.heap.size, 3, none⟩ = some (.int .i64 fu) ∧ wE2.drew.cell? ⟨wC.heap.size, 4, none⟩ = some (.int .i64 bd)) ∧ wE2.drew.cell? ⟨w.heap.size, 0, none⟩ = some (a0) ∧ wE2.drew.cell? ⟨w.heap.size, 1, none⟩ = some (a1) ∧ wE2.drew.cell? ⟨w.heap.size, 2, none⟩ = some (a2) ∧ wE2.drew.cell? ⟨w.heap.size, 3, none⟩ = some (.int .i64 fu) ∧ wE2.drew.cell? ⟨w.heap.size, 4, none⟩ = some (.int .i64 bd) := ⟨⟨cell_at HX_wE2.out 0, cell_at HX_wE2.out 1, cell_at HX_wE2.out 2, cell_at HX_wE2.out 3, cell_at HX_wE2.out 4⟩, cell_at HA_wE2.out 0, cell_at HA_wE2.out 1, cell_at HA_wE2.out 2, cell_at HA_wE2.out 3, cell_at HA_wE2.out 4⟩
  go_region_held3 (fun w' => (w'.cell? ⟨wC.heap.size, 0, none⟩ = some (.slice x0 xn0 xc0) ∧ w'.cell? ⟨wC.heap.size, 1, none⟩ = some (.slice x1 xn1 xc1) ∧ w'.cell? ⟨wC.heap.size, 2, none⟩ = some (.slice x2 xn2 xc2) ∧ w'.cell? ⟨wC.heap.size, 3, none⟩ = some (.int .i64 fu) ∧ w'.cell? ⟨wC.heap.size, 4, none⟩ = some (.int .i64 bd)) ∧ w'.cell? ⟨w.heap.size, 0, none⟩ = some (a0) ∧ w'.cell? ⟨w.heap.size, 1, none⟩ = some (a1) ∧ w'.cell? ⟨w.heap.size, 2, none⟩ = some (a2) ∧ w'.cell? ⟨w.heap.size, 3, none⟩ = some (.int .i64 fu) ∧ w'.cell? ⟨w.heap.size, 4, none⟩ = some (.int .i64 bd)) (with_reducible assumption) (first | (have _z := hbF; clear _z; go_at_call 46; refine Calls.mono (cEm.out _ _ _ _ _ _ _ _ _ _ _ _ _ _ _ _ _ _ _ (cXF.out _ hbF) hOF.row) ?_; rintro e wG ⟨rfl, hbG⟩; have hXG := stay1 hXF hbG; have hAG := stay1 hAF hbG; have kG : (wG.cell? ⟨wC.heap.size, 0, none⟩ = some (.slice x0 xn0 xc0) ∧ wG.cell? ⟨wC.heap.size, 1, none⟩ = some (.slice x1 xn1 xc1) ∧ wG.cell? ⟨wC.heap.size, 2, none⟩ = some (.slice x2 xn2 xc2) ∧ wG.cell? ⟨wC.heap.size, 3, none⟩ = some (.int .i64 fu) ∧ wG.cell? ⟨wC.heap.size, 4, none⟩ = some (.int .i64 bd)) ∧ wG.cell? ⟨w.heap.size, 0, none⟩ = some (a0) ∧ wG.cell? ⟨w.heap.size, 1, none⟩ = some (a1) ∧ wG.cell? ⟨w.heap.size, 2, none⟩ = some (a2) ∧ wG.cell? ⟨w.heap.size, 3, none⟩ = some (.int .i64 fu) ∧ wG.cell? ⟨w.heap.size, 4, none⟩ = some (.int .i64 bd) := ⟨⟨cell_at hXG 0, cell_at hXG 1, cell_at hXG 2, cell_at hXG 3, cell_at hXG 4⟩, cell_at hAG 0, cell_at hAG 1, cell_at hAG 2, cell_at hAG 3, cell_at hAG 4⟩) | (go_at_call 52; refine Calls.mono (cT.out _ BL_wE2.out.drew) ?_; rintro e wF ⟨f0, fn0, fc0, f1, fn1, fc1, f2, fn2, fc2, rfl, hOF, hbF⟩; have hXF := stay1 (W := wE2.drew) HX_wE2.out hbF; have hAF := stay1 (W := wE2.drew) HA_wE2.out hbF; have kF : (wF.cell? ⟨wC.heap.size, 0, none⟩ = some (.slice x0 xn0 xc0) ∧ wF.cell? ⟨wC.heap.size, 1, none⟩ = some (.slice x1 xn1 xc1) ∧ wF.cell? ⟨wC.heap.size, 2, none⟩ = some (.slice x2 xn2 xc2) ∧ wF.cell? ⟨wC.heap.size, 3, none⟩ = some (.int .i64 fu) ∧ wF.cell? ⟨wC.heap.size, 4, none⟩ = some (.int .i64 bd)) ∧ wF.cell? ⟨w.heap.size, 0, none⟩ = some (a0) ∧ wF.cell? ⟨w.heap.size, 1, none⟩ = some (a1) ∧ wF.cell? ⟨w.heap.size, 2, none⟩ = some (a2) ∧ wF.cell? ⟨w.heap.size, 3, none⟩ = some (.int .i64 fu) ∧ wF.cell? ⟨w.heap.size, 4, none⟩ = some (.int .i64 bd) := ⟨⟨cell_at hXF 0, cell_at hXF 1, cell_at hXF 2, cell_at hXF 3, cell_at hXF 4⟩, cell_at hAF 0, cell_at hAF 1, cell_at hAF 2, cell_at hAF 3, cell_at hAF 4⟩))
  have hbW : Below wE2.heap.size wE2 wG := (Below.refl _ _).drew.trans (hbF.trans (hbG.mono hbF.size))
  clear kX0 kX1 kX2 kX3 kX4 kA0 kA1 kA2 kA3 kA4
  have HA_wG : Hid (wG.heap[w.heap.size]? = some (.cells #[a0, a1, a2, .int .i64 fu, .int .i64 bd] 58 (0, 0))) := stay1 HA_wE2.out hbW
  have HS_wG : Hid (wG.heap[wB.heap.size]? = some (.cells #[.slice s0 sn0 sc0, .slice s1 sn1 sc1, .slice s2 sn2 sc2, .int .i64 M.fuel, .int .i64 M.bad] 27 (0, 0))) := stay1 HS_wE2.out hbW
  have HSV_wG : Hid (wG.heap[wB.heap.size + 1]? = some (.cells #[.int .i64 r0, .int .i64 r1] 31 (0, 0))) := stay1 HSV_wE2.out hbW
  have HX_wG : Hid (wG.heap[wC.heap.size]? = some (.cells #[.slice x0 xn0 xc0, .slice x1 xn1 xc1, .slice x2 xn2 xc2, .int .i64 fu, .int .i64 bd] 27 (0, 0))) := stay1 HX_wE2.out hbW
  have HG_wG : Hid (wG.heap[wD.heap.size]? = some (.cells #[.slice g0 gn0 gc0, .slice g1 gn1 gc1, .slice g2 gn2 gc2, .int .i64 M.fuel, .int .i64 M.bad] 27 (0, 0))) := stay1 HG_wE2.out hbW
  have HGV_wG : Hid (wG.heap[wD.heap.size + 1]? = some (.cells #[.int .i64 r0, .int .i64 r1] 31 (0, 0))) := stay1 HGV_wE2.out hbW
  have z_wG : wE2.heap.size ≤ wG.heap.size := hbW.size
  have BL_wG : Hid (Below w.heap.size w wG) := BL_wE2.out.trans (hbW.mono BL_wE2.out.size)
  have S_wG : Hid (RowMm wG wB.heap.size (.slice s0 sn0 sc0) (.slice s1 sn1 sc1) (.slice s2 sn2 sc2) M) := S_wE2.out.keep (hbW.mono (by omega))
  have X_wG : Hid (OwnMm wG W2.heap.size wC.heap.size (.slice x0 xn0 xc0) (.slice x1 xn1 xc1) (.slice x2 xn2 xc2) m) := X_wE2.out.move (Nat.le_refl _) (fun g _ hg => hbW.block g (by omega))
  have G_wG : Hid (OwnMm wG W3.heap.size wD.heap.size (.slice g0 gn0 gc0) (.slice g1 gn1 gc1) (.slice g2 gn2 gc2) M) := G_wE2.out.move (Nat.le_refl _) (fun g _ hg => hbW.block g (by omega))
  clear hbW cXF kd kF kG hXF hAF hXG hAG hOF hbF hbG
  clear HA_wE2 HS_wE2 HSV_wE2 HX_wE2 HG_wE2 HGV_wE2 BL_wE2 S_wE2 X_wE2 G_wE2
  have kX0 : wG.cell? ⟨wC.heap.size, 0, none⟩ = some (.slice x0 xn0 xc0) := cell_at HX_wG.out 0
  have kX1 : wG.cell? ⟨wC.heap.size, 1, none⟩ = some (.slice x1 xn1 xc1) := cell_at HX_wG.out 1
  have kX2 : wG.cell? ⟨wC.heap.size, 2, none⟩ = some (.slice x2 xn2 xc2) := cell_at HX_wG.out 2
  have kX3 : wG.cell? ⟨wC.heap.size, 3, none⟩ = some (.int .i64 fu) := cell_at HX_wG.out 3
  have kX4 : wG.cell? ⟨wC.heap.size, 4, none⟩ = some (.int .i64 bd) := cell_at HX_wG.out 4
  go_wp2_with fail
  go_at_call 49
  refine Calls.mono (cKm.out _ _ _ _ _ _ _ _ _ _ _ _ X_wG.out (by omega)) ?_
  rintro e wH ⟨rfl, -, hR⟩
  clear kX0 kX1 kX2 kX3 kX4
  clear X_wG
  have HA_wH : Hid (wH.heap[w.heap.size]? = some (.cells #[a0, a1, a2, .int .i64 fu, .int .i64 bd] 58 (0, 0))) := stayr HA_wG.out hR (by omega)
  have HS_wH : Hid (wH.heap[wB.heap.size]? = some (.cells #[.slice s0 sn0 sc0, .slice s1 sn1 sc1, .slice s2 sn2 sc2, .int .i64 M.fuel, .int .i64 M.bad] 27 (0, 0))) := stayr HS_wG.out hR (by omega)
  have HSV_wH : Hid (wH.heap[wB.heap.size + 1]? = some (.cells #[.int .i64 r0, .int .i64 r1] 31 (0, 0))) := stayr HSV_wG.out hR (by omega)
  have HX_wH : Hid (wH.heap[wC.heap.size]? = some (.cells #[.slice x0 xn0 xc0, .slice x1 xn1 xc1, .slice x2 xn2 xc2, .int .i64 fu, .int .i64 bd] 27 (0, 0))) := stayr HX_wG.out hR (by omega)
  have HG_wH : Hid (wH.heap[wD.heap.size]? = some (.cells #[.slice g0 gn0 gc0, .slice g1 gn1 gc1, .slice g2 gn2 gc2, .int .i64 M.fuel, .int .i64 M.bad] 27 (0, 0))) := stayr HG_wG.out hR (by omega)
  have HGV_wH : Hid (wH.heap[wD.heap.size + 1]? = some (.cells #[.int .i64 r0, .int .i64 r1] 31 (0, 0))) := stayr HGV_wG.out hR (by omega)
  have z_wH : wG.heap.size ≤ wH.heap.size := hR.size
  have BL_wH : Hid (Below w.heap.size w wH) := BL_wG.out.trans ((hR.below (by omega)).mono (by omega))
  have S_wH : Hid (RowMm wH wB.heap.size (.slice s0 sn0 sc0) (.slice s1 sn1 sc1) (.slice s2 sn2 sc2) M) := S_wG.out.keep ((hR.below (by omega)).mono (by omega))
  have G_wH : Hid (OwnMm wH W3.heap.size wD.heap.size (.slice g0 gn0 gc0) (.slice g1 gn1 gc1) (.slice g2 gn2 gc2) M) := G_wG.out.move (Nat.le_refl _) (fun g hg hg2 => hR.block g (by omega) (by omega))
  clear hR
  clear HA_wG HS_wG HSV_wG HX_wG HG_wG HGV_wG BL_wG S_wG G_wG
  have kG0 : wH.cell? ⟨wD.heap.size, 0, none⟩ = some (.slice g0 gn0 gc0) := cell_at HG_wH.out 0
  have kG1 : wH.cell? ⟨wD.heap.size, 1, none⟩ = some (.slice g1 gn1 gc1) := cell_at HG_wH.out 1
  have kG2 : wH.cell? ⟨wD.heap.size, 2, none⟩ = some (.slice g2 gn2 gc2) := cell_at HG_wH.out 2
  have kG3 : wH.cell? ⟨wD.heap.size, 3, none⟩ = some (.int .i64 M.fuel) := cell_at HG_wH.out 3
  have kG4 : wH.cell? ⟨wD.heap.size, 4, none⟩ = some (.int .i64 M.bad) := cell_at HG_wH.out 4
  have kS0 : wH.cell? ⟨wB.heap.size, 0, none⟩ = some (.slice s0 sn0 sc0) := cell_at HS_wH.out 0
  have kS1 : wH.cell? ⟨wB.heap.size, 1, none⟩ = some (.slice s1 sn1 sc1) := cell_at HS_wH.out 1
  have kS2 : wH.cell? ⟨wB.heap.size, 2, none⟩ = some (.slice s2 sn2 sc2) := cell_at HS_wH.out 2
  have kS3 : wH.cell? ⟨wB.heap.size, 3, none⟩ = some (.int .i64 M.fuel) := cell_at HS_wH.out 3
  have kS4 : wH.cell? ⟨wB.heap.size, 4, none⟩ = some (.int .i64 M.bad) := cell_at HS_wH.out 4
  go_wp2_with fail
  go_at_call 46
  refine Calls.mono (cE.out _ _ _ _ _ _ _ _ _ _ _ _ _ _ _ _ _ _ _ (G_wH.out.row.up (by omega)) (S_wH.out.up (by omega))) ?_
  rintro e wI ⟨rfl, hb⟩
  have HA_wI : Hid (wI.heap[w.heap.size]? = some (.cells #[a0, a1, a2, .int .i64 fu, .int .i64 bd] 58 (0, 0))) := stay1 HA_wH.out hb
  have HS_wI : Hid (wI.heap[wB.heap.size]? = some (.cells #[.slice s0 sn0 sc0, .slice s1 sn1 sc1, .slice s2 sn2 sc2, .int .i64 M.fuel, .int .i64 M.bad] 27 (0, 0))) := stay1 HS_wH.out hb
  have HSV_wI : Hid (wI.heap[wB.heap.size + 1]? = some (.cells #[.int .i64 r0, .int .i64 r1] 31 (0, 0))) := stay1 HSV_wH.out hb
  have HX_wI : Hid (wI.heap[wC.heap.size]? = some (.cells #[.slice x0 xn0 xc0, .slice x1 xn1 xc1, .slice x2 xn2 xc2, .int .i64 fu, .int .i64 bd] 27 (0, 0))) := stay1 HX_wH.out hb
  have HG_wI : Hid (wI.heap[wD.heap.size]? = some (.cells #[.slice g0 gn0 gc0, .slice g1 gn1 gc1, .slice g2 gn2 gc2, .int .i64 M.fuel, .int .i64 M.bad] 27 (0, 0))) := stay1 HG_wH.out hb
  have HGV_wI : Hid (wI.heap[wD.heap.size + 1]? = some (.cells #[.int .i64 r0, .int .i64 r1] 31 (0, 0))) := stay1 HGV_wH.out hb
  have z_wI : wH.heap.size ≤ wI.heap.size := hb.size
  have BL_wI : Hid (Below w.heap.size w wI) := BL_wH.out.trans (hb.mono BL_wH.out.size)
  have S_wI : Hid (RowMm wI wB.heap.size (.slice s0 sn0 sc0) (.slice s1 sn1 sc1) (.slice s2 sn2 sc2) M) := S_wH.out.keep (hb.mono (by omega))
  have G_wI : Hid (OwnMm wI W3.heap.size wD.heap.size (.slice g0 gn0 gc0) (.slice g1 gn1 gc1) (.slice g2 gn2 gc2) M) := G_wH.out.move (Nat.le_refl _) (fun g _ hg => hb.block g (by omega))
  clear hb
  clear HA_wH HS_wH HSV_wH HX_wH HG_wH HGV_wH BL_wH S_wH G_wH
  clear kG0 kG1 kG2 kG3 kG4 kS0 kS1 kS2 kS3 kS4
  have kGV0 : wI.cell? ⟨wD.heap.size + 1, 0, none⟩ = some (.int .i64 r0) := cell_at HGV_wI.out 0
  have kGV1 : wI.cell? ⟨wD.heap.size + 1, 1, none⟩ = some (.int .i64 r1) := cell_at HGV_wI.out 1
  have kSV0 : wI.cell? ⟨wB.heap.size + 1, 0, none⟩ = some (.int .i64 r0) := cell_at HSV_wI.out 0
  have kSV1 : wI.cell? ⟨wB.heap.size + 1, 1, none⟩ = some (.int .i64 r1) := cell_at HSV_wI.out 1
  go_wp2_with fail
  go_at_call 53
  refine Calls.mono (eqValue_is _ _ _) ?_
  rintro e wI2 ⟨rfl, hb⟩
  have HA_wI2 : Hid (wI2.heap[w.heap.size]? = some (.cells #[a0, a1, a2, .int .i64 fu, .int .i64 bd] 58 (0, 0))) := stay1 HA_wI.out hb
  have HS_wI2 : Hid (wI2.heap[wB.heap.size]? = some (.cells #[.slice s0 sn0 sc0, .slice s1 sn1 sc1, .slice s2 sn2 sc2, .int .i64 M.fuel, .int .i64 M.bad] 27 (0, 0))) := stay1 HS_wI.out hb
  have HSV_wI2 : Hid (wI2.heap[wB.heap.size + 1]? = some (.cells #[.int .i64 r0, .int .i64 r1] 31 (0, 0))) := stay1 HSV_wI.out hb
  have HX_wI2 : Hid (wI2.heap[wC.heap.size]? = some (.cells #[.slice x0 xn0 xc0, .slice x1 xn1 xc1, .slice x2 xn2 xc2, .int .i64 fu, .int .i64 bd] 27 (0, 0))) := stay1 HX_wI.out hb
  have HG_wI2 : Hid (wI2.heap[wD.heap.size]? = some (.cells #[.slice g0 gn0 gc0, .slice g1 gn1 gc1, .slice g2 gn2 gc2, .int .i64 M.fuel, .int .i64 M.bad] 27 (0, 0))) := stay1 HG_wI.out hb
  have HGV_wI2 : Hid (wI2.heap[wD.heap.size + 1]? = some (.cells #[.int .i64 r0, .int .i64 r1] 31 (0, 0))) := stay1 HGV_wI.out hb
  have z_wI2 : wI.heap.size ≤ wI2.heap.size := hb.size
  have BL_wI2 : Hid (Below w.heap.size w wI2) := BL_wI.out.trans (hb.mono BL_wI.out.size)
  have S_wI2 : Hid (RowMm wI2 wB.heap.size (.slice s0 sn0 sc0) (.slice s1 sn1 sc1) (.slice s2 sn2 sc2) M) := S_wI.out.keep (hb.mono (by omega))
  have G_wI2 : Hid (OwnMm wI2 W3.heap.size wD.heap.size (.slice g0 gn0 gc0) (.slice g1 gn1 gc1) (.slice g2 gn2 gc2) M) := G_wI.out.move (Nat.le_refl _) (fun g _ hg => hb.block g (by omega))
  clear hb
  clear kGV0 kGV1 kSV0 kSV1
  clear HA_wI HS_wI HSV_wI HX_wI HG_wI HGV_wI BL_wI S_wI G_wI
  have kG0 : wI2.cell? ⟨wD.heap.size, 0, none⟩ = some (.slice g0 gn0 gc0) := cell_at HG_wI2.out 0
  have kG1 : wI2.cell? ⟨wD.heap.size, 1, none⟩ = some (.slice g1 gn1 gc1) := cell_at HG_wI2.out 1
  have kG2 : wI2.cell? ⟨wD.heap.size, 2, none⟩ = some (.slice g2 gn2 gc2) := cell_at HG_wI2.out 2
  have kG3 : wI2.cell? ⟨wD.heap.size, 3, none⟩ = some (.int .i64 M.fuel) := cell_at HG_wI2.out 3
  have kG4 : wI2.cell? ⟨wD.heap.size, 4, none⟩ = some (.int .i64 M.bad) := cell_at HG_wI2.out 4
  go_wp2_with fail
  go_at_call 49
  refine Calls.mono (cK.out _ _ _ _ _ _ _ _ _ _ _ _ G_wI2.out (by omega)) ?_
  rintro e wJ ⟨rfl, hQ, hR⟩
  clear kG0 kG1 kG2 kG3 kG4
  clear G_wI2
  have HA_wJ : Hid (wJ.heap[w.heap.size]? = some (.cells #[a0, a1, a2, .int .i64 fu, .int .i64 bd] 58 (0, 0))) := stayr HA_wI2.out hR (by omega)
  have HS_wJ : Hid (wJ.heap[wB.heap.size]? = some (.cells #[.slice s0 sn0 sc0, .slice s1 sn1 sc1, .slice s2 sn2 sc2, .int .i64 M.fuel, .int .i64 M.bad] 27 (0, 0))) := stayr HS_wI2.out hR (by omega)
  have HSV_wJ : Hid (wJ.heap[wB.heap.size + 1]? = some (.cells #[.int .i64 r0, .int .i64 r1] 31 (0, 0))) := stayr HSV_wI2.out hR (by omega)
  have HX_wJ : Hid (wJ.heap[wC.heap.size]? = some (.cells #[.slice x0 xn0 xc0, .slice x1 xn1 xc1, .slice x2 xn2 xc2, .int .i64 fu, .int .i64 bd] 27 (0, 0))) := stayr HX_wI2.out hR (by omega)
  have HG_wJ : Hid (wJ.heap[wD.heap.size]? = some (.cells #[.slice g0 gn0 gc0, .slice g1 gn1 gc1, .slice g2 gn2 gc2, .int .i64 M.fuel, .int .i64 M.bad] 27 (0, 0))) := stayr HG_wI2.out hR (by omega)
  have HGV_wJ : Hid (wJ.heap[wD.heap.size + 1]? = some (.cells #[.int .i64 r0, .int .i64 r1] 31 (0, 0))) := stayr HGV_wI2.out hR (by omega)
  have z_wJ : wI2.heap.size ≤ wJ.heap.size := hR.size
  have BL_wJ : Hid (Below w.heap.size w wJ) := BL_wI2.out.trans ((hR.below (by omega)).mono (by omega))
  have S_wJ : Hid (RowMm wJ wB.heap.size (.slice s0 sn0 sc0) (.slice s1 sn1 sc1) (.slice s2 sn2 sc2) M) := S_wI2.out.keep ((hR.below (by omega)).mono (by omega))
  have Q_wJ : Hid (RowMm wJ wD.heap.size (.slice g0 gn0 gc0) (.slice g1 gn1 gc1) (.slice g2 gn2 gc2) (mkMm M)) := hQ
  clear hR hQ
  clear HA_wI2 HS_wI2 HSV_wI2 HX_wI2 HG_wI2 HGV_wI2 BL_wI2 S_wI2
  have kG0 : wJ.cell? ⟨wD.heap.size, 0, none⟩ = some (.slice g0 gn0 gc0) := cell_at HG_wJ.out 0
  have kG1 : wJ.cell? ⟨wD.heap.size, 1, none⟩ = some (.slice g1 gn1 gc1) := cell_at HG_wJ.out 1
  have kG2 : wJ.cell? ⟨wD.heap.size, 2, none⟩ = some (.slice g2 gn2 gc2) := cell_at HG_wJ.out 2
  have kG3 : wJ.cell? ⟨wD.heap.size, 3, none⟩ = some (.int .i64 M.fuel) := cell_at HG_wJ.out 3
  have kG4 : wJ.cell? ⟨wD.heap.size, 4, none⟩ = some (.int .i64 M.bad) := cell_at HG_wJ.out 4
  go_wp2_with fail
  go_at_call 50
  refine Calls.mono (cH.out _ _ _ _ _ _ _ _ _ _ (Q_wJ.out.up (by omega))) ?_
  rintro e wK ⟨rfl, hb⟩
  have HA_wK : Hid (wK.heap[w.heap.size]? = some (.cells #[a0, a1, a2, .int .i64 fu, .int .i64 bd] 58 (0, 0))) := stay1 HA_wJ.out hb
  have HS_wK : Hid (wK.heap[wB.heap.size]? = some (.cells #[.slice s0 sn0 sc0, .slice s1 sn1 sc1, .slice s2 sn2 sc2, .int .i64 M.fuel, .int .i64 M.bad] 27 (0, 0))) := stay1 HS_wJ.out hb
  have HSV_wK : Hid (wK.heap[wB.heap.size + 1]? = some (.cells #[.int .i64 r0, .int .i64 r1] 31 (0, 0))) := stay1 HSV_wJ.out hb
  have HX_wK : Hid (wK.heap[wC.heap.size]? = some (.cells #[.slice x0 xn0 xc0, .slice x1 xn1 xc1, .slice x2 xn2 xc2, .int .i64 fu, .int .i64 bd] 27 (0, 0))) := stay1 HX_wJ.out hb
  have HG_wK : Hid (wK.heap[wD.heap.size]? = some (.cells #[.slice g0 gn0 gc0, .slice g1 gn1 gc1, .slice g2 gn2 gc2, .int .i64 M.fuel, .int .i64 M.bad] 27 (0, 0))) := stay1 HG_wJ.out hb
  have HGV_wK : Hid (wK.heap[wD.heap.size + 1]? = some (.cells #[.int .i64 r0, .int .i64 r1] 31 (0, 0))) := stay1 HGV_wJ.out hb
  have z_wK : wJ.heap.size ≤ wK.heap.size := hb.size
  have BL_wK : Hid (Below w.heap.size w wK) := BL_wJ.out.trans (hb.mono BL_wJ.out.size)
  have S_wK : Hid (RowMm wK wB.heap.size (.slice s0 sn0 sc0) (.slice s1 sn1 sc1) (.slice s2 sn2 sc2) M) := S_wJ.out.keep (hb.mono (by omega))
  have Q_wK : Hid (RowMm wK wD.heap.size (.slice g0 gn0 gc0) (.slice g1 gn1 gc1) (.slice g2 gn2 gc2) (mkMm M)) := Q_wJ.out.keep (hb.mono (by omega))
  clear hb
  clear kG0 kG1 kG2 kG3 kG4
  clear HA_wJ HS_wJ HSV_wJ HX_wJ HG_wJ HGV_wJ BL_wJ S_wJ Q_wJ
  have kA0 : wK.cell? ⟨w.heap.size, 0, none⟩ = some (a0) := cell_at HA_wK.out 0
  have kA1 : wK.cell? ⟨w.heap.size, 1, none⟩ = some (a1) := cell_at HA_wK.out 1
  have kA2 : wK.cell? ⟨w.heap.size, 2, none⟩ = some (a2) := cell_at HA_wK.out 2
  have kA3 : wK.cell? ⟨w.heap.size, 3, none⟩ = some (.int .i64 fu) := cell_at HA_wK.out 3
  have kA4 : wK.cell? ⟨w.heap.size, 4, none⟩ = some (.int .i64 bd) := cell_at HA_wK.out 4
  go_wp2_with fail
  go_at_call 52
  refine Calls.mono (cT.out _ BL_wK.out) ?_
  rintro e wL ⟨u0, un0, uc0, u1, un1, uc1, u2, un2, uc2, rfl, hO, hb⟩
  have HA_wL : Hid (wL.heap[w.heap.size]? = some (.cells #[a0, a1, a2, .int .i64 fu, .int .i64 bd] 58 (0, 0))) := stay1 HA_wK.out hb
  have HS_wL : Hid (wL.heap[wB.heap.size]? = some (.cells #[.slice s0 sn0 sc0, .slice s1 sn1 sc1, .slice s2 sn2 sc2, .int .i64 M.fuel, .int .i64 M.bad] 27 (0, 0))) := stay1 HS_wK.out hb
  have HSV_wL : Hid (wL.heap[wB.heap.size + 1]? = some (.cells #[.int .i64 r0, .int .i64 r1] 31 (0, 0))) := stay1 HSV_wK.out hb
  have HX_wL : Hid (wL.heap[wC.heap.size]? = some (.cells #[.slice x0 xn0 xc0, .slice x1 xn1 xc1, .slice x2 xn2 xc2, .int .i64 fu, .int .i64 bd] 27 (0, 0))) := stay1 HX_wK.out hb
  have HG_wL : Hid (wL.heap[wD.heap.size]? = some (.cells #[.slice g0 gn0 gc0, .slice g1 gn1 gc1, .slice g2 gn2 gc2, .int .i64 M.fuel, .int .i64 M.bad] 27 (0, 0))) := stay1 HG_wK.out hb
  have HGV_wL : Hid (wL.heap[wD.heap.size + 1]? = some (.cells #[.int .i64 r0, .int .i64 r1] 31 (0, 0))) := stay1 HGV_wK.out hb
  have z_wL : wK.heap.size ≤ wL.heap.size := hb.size
  have BL_wL : Hid (Below w.heap.size w wL) := BL_wK.out.trans (hb.mono BL_wK.out.size)
  have S_wL : Hid (RowMm wL wB.heap.size (.slice s0 sn0 sc0) (.slice s1 sn1 sc1) (.slice s2 sn2 sc2) M) := S_wK.out.keep (hb.mono (by omega))
  have Q_wL : Hid (RowMm wL wD.heap.size (.slice g0 gn0 gc0) (.slice g1 gn1 gc1) (.slice g2 gn2 gc2) (mkMm M)) := Q_wK.out.keep (hb.mono (by omega))
  clear kA0 kA1 kA2 kA3 kA4
  have U_wL : Hid (OwnMm wL wK.heap.size wL.heap.size (.slice u0 un0 uc0) (.slice u1 un1 uc1) (.slice u2 un2 uc2) m) := hO
  clear hO hb
  clear HA_wK HS_wK HSV_wK HX_wK HG_wK HGV_wK BL_wK S_wK Q_wK
  go_wp2_with fail
  go_at_call 18
  refine Calls.mono (cI.out _ _ _ _ _ _ _ _ _ _ (U_wL.out.row.up (by omega)) U_wL.out.nils) ?_
  rintro e wM ⟨h0, hn0, hc0, h1, hn1, hc1, h2, hn2, hc2, rfl, hO, hb⟩
  clear U_wL
  have HA_wM : Hid (wM.heap[w.heap.size]? = some (.cells #[a0, a1, a2, .int .i64 fu, .int .i64 bd] 58 (0, 0))) := stay1 HA_wL.out hb
  have HS_wM : Hid (wM.heap[wB.heap.size]? = some (.cells #[.slice s0 sn0 sc0, .slice s1 sn1 sc1, .slice s2 sn2 sc2, .int .i64 M.fuel, .int .i64 M.bad] 27 (0, 0))) := stay1 HS_wL.out hb
  have HSV_wM : Hid (wM.heap[wB.heap.size + 1]? = some (.cells #[.int .i64 r0, .int .i64 r1] 31 (0, 0))) := stay1 HSV_wL.out hb
  have HX_wM : Hid (wM.heap[wC.heap.size]? = some (.cells #[.slice x0 xn0 xc0, .slice x1 xn1 xc1, .slice x2 xn2 xc2, .int .i64 fu, .int .i64 bd] 27 (0, 0))) := stay1 HX_wL.out hb
  have HG_wM : Hid (wM.heap[wD.heap.size]? = some (.cells #[.slice g0 gn0 gc0, .slice g1 gn1 gc1, .slice g2 gn2 gc2, .int .i64 M.fuel, .int .i64 M.bad] 27 (0, 0))) := stay1 HG_wL.out hb
  have HGV_wM : Hid (wM.heap[wD.heap.size + 1]? = some (.cells #[.int .i64 r0, .int .i64 r1] 31 (0, 0))) := stay1 HGV_wL.out hb
  have z_wM : wL.heap.size ≤ wM.heap.size := hb.size
  have BL_wM : Hid (Below w.heap.size w wM) := BL_wL.out.trans (hb.mono BL_wL.out.size)
  have S_wM : Hid (RowMm wM wB.heap.size (.slice s0 sn0 sc0) (.slice s1 sn1 sc1) (.slice s2 sn2 sc2) M) := S_wL.out.keep (hb.mono (by omega))
  have Q_wM : Hid (RowMm wM wD.heap.size (.slice g0 gn0 gc0) (.slice g1 gn1 gc1) (.slice g2 gn2 gc2) (mkMm M)) := Q_wL.out.keep (hb.mono (by omega))
  have V_wM : Hid (OwnMm wM wL.heap.size wM.heap.size (.slice h0 hn0 hc0) (.slice h1 hn1 hc1) (.slice h2 hn2 hc2) M) := hO
  clear hO hb
  clear HA_wL HS_wL HSV_wL HX_wL HG_wL HGV_wL BL_wL S_wL Q_wL
  have kS0 : wM.cell? ⟨wB.heap.size, 0, none⟩ = some (.slice s0 sn0 sc0) := cell_at HS_wM.out 0
  have kS1 : wM.cell? ⟨wB.heap.size, 1, none⟩ = some (.slice s1 sn1 sc1) := cell_at HS_wM.out 1
  have kS2 : wM.cell? ⟨wB.heap.size, 2, none⟩ = some (.slice s2 sn2 sc2) := cell_at HS_wM.out 2
  have kS3 : wM.cell? ⟨wB.heap.size, 3, none⟩ = some (.int .i64 M.fuel) := cell_at HS_wM.out 3
  have kS4 : wM.cell? ⟨wB.heap.size, 4, none⟩ = some (.int .i64 M.bad) := cell_at HS_wM.out 4
  have lS_wM : wB.heap.size < wM.heap.size := heap_lt HS_wM.out
  go_wp2_with fail
  clear kS0 kS1 kS2 kS3 kS4
  have hbx : Below wM.heap.size wM ((wM.alloc (.cells #[.slice h0 hn0 hc0, .slice h1 hn1 hc1, .slice h2 hn2 hc2, .int .i64 M.fuel, .int .i64 M.bad] 27 (0, 0))).alloc (.cells #[.int .i64 r0, .int .i64 r1] 31 (0, 0))) := by go_grown
  have HA_W9 : Hid (((wM.alloc (.cells #[.slice h0 hn0 hc0, .slice h1 hn1 hc1, .slice h2 hn2 hc2, .int .i64 M.fuel, .int .i64 M.bad] 27 (0, 0))).alloc (.cells #[.int .i64 r0, .int .i64 r1] 31 (0, 0))).heap[w.heap.size]? = some (.cells #[a0, a1, a2, .int .i64 fu, .int .i64 bd] 58 (0, 0))) := stay1 HA_wM.out hbx
  have HS_W9 : Hid (((wM.alloc (.cells #[.slice h0 hn0 hc0, .slice h1 hn1 hc1, .slice h2 hn2 hc2, .int .i64 M.fuel, .int .i64 M.bad] 27 (0, 0))).alloc (.cells #[.int .i64 r0, .int .i64 r1] 31 (0, 0))).heap[wB.heap.size]? = some (.cells #[.slice s0 sn0 sc0, .slice s1 sn1 sc1, .slice s2 sn2 sc2, .int .i64 M.fuel, .int .i64 M.bad] 27 (0, 0))) := stay1 HS_wM.out hbx
  have HSV_W9 : Hid (((wM.alloc (.cells #[.slice h0 hn0 hc0, .slice h1 hn1 hc1, .slice h2 hn2 hc2, .int .i64 M.fuel, .int .i64 M.bad] 27 (0, 0))).alloc (.cells #[.int .i64 r0, .int .i64 r1] 31 (0, 0))).heap[wB.heap.size + 1]? = some (.cells #[.int .i64 r0, .int .i64 r1] 31 (0, 0))) := stay1 HSV_wM.out hbx
  have HX_W9 : Hid (((wM.alloc (.cells #[.slice h0 hn0 hc0, .slice h1 hn1 hc1, .slice h2 hn2 hc2, .int .i64 M.fuel, .int .i64 M.bad] 27 (0, 0))).alloc (.cells #[.int .i64 r0, .int .i64 r1] 31 (0, 0))).heap[wC.heap.size]? = some (.cells #[.slice x0 xn0 xc0, .slice x1 xn1 xc1, .slice x2 xn2 xc2, .int .i64 fu, .int .i64 bd] 27 (0, 0))) := stay1 HX_wM.out hbx
  have HG_W9 : Hid (((wM.alloc (.cells #[.slice h0 hn0 hc0, .slice h1 hn1 hc1, .slice h2 hn2 hc2, .int .i64 M.fuel, .int .i64 M.bad] 27 (0, 0))).alloc (.cells #[.int .i64 r0, .int .i64 r1] 31 (0, 0))).heap[wD.heap.size]? = some (.cells #[.slice g0 gn0 gc0, .slice g1 gn1 gc1, .slice g2 gn2 gc2, .int .i64 M.fuel, .int .i64 M.bad] 27 (0, 0))) := stay1 HG_wM.out hbx
  have HGV_W9 : Hid (((wM.alloc (.cells #[.slice h0 hn0 hc0, .slice h1 hn1 hc1, .slice h2 hn2 hc2, .int .i64 M.fuel, .int .i64 M.bad] 27 (0, 0))).alloc (.cells #[.int .i64 r0, .int .i64 r1] 31 (0, 0))).heap[wD.heap.size + 1]? = some (.cells #[.int .i64 r0, .int .i64 r1] 31 (0, 0))) := stay1 HGV_wM.out hbx
  have z_W9 : wM.heap.size ≤ ((wM.alloc (.cells #[.slice h0 hn0 hc0, .slice h1 hn1 hc1, .slice h2 hn2 hc2, .int .i64 M.fuel, .int .i64 M.bad] 27 (0, 0))).alloc (.cells #[.int .i64 r0, .int .i64 r1] 31 (0, 0))).heap.size := hbx.size
  have BL_W9 : Hid (Below w.heap.size w ((wM.alloc (.cells #[.slice h0 hn0 hc0, .slice h1 hn1 hc1, .slice h2 hn2 hc2, .int .i64 M.fuel, .int .i64 M.bad] 27 (0, 0))).alloc (.cells #[.int .i64 r0, .int .i64 r1] 31 (0, 0)))) := BL_wM.out.trans (hbx.mono BL_wM.out.size)
  have S_W9 : Hid (RowMm ((wM.alloc (.cells #[.slice h0 hn0 hc0, .slice h1 hn1 hc1, .slice h2 hn2 hc2, .int .i64 M.fuel, .int .i64 M.bad] 27 (0, 0))).alloc (.cells #[.int .i64 r0, .int .i64 r1] 31 (0, 0))) wB.heap.size (.slice s0 sn0 sc0) (.slice s1 sn1 sc1) (.slice s2 sn2 sc2) M) := S_wM.out.keep (hbx.mono (by omega))
  have Q_W9 : Hid (RowMm ((wM.alloc (.cells #[.slice h0 hn0 hc0, .slice h1 hn1 hc1, .slice h2 hn2 hc2, .int .i64 M.fuel, .int .i64 M.bad] 27 (0, 0))).alloc (.cells #[.int .i64 r0, .int .i64 r1] 31 (0, 0))) wD.heap.size (.slice g0 gn0 gc0) (.slice g1 gn1 gc1) (.slice g2 gn2 gc2) (mkMm M)) := Q_wM.out.keep (hbx.mono (by omega))
  have V_W9 : Hid (OwnMm ((wM.alloc (.cells #[.slice h0 hn0 hc0, .slice h1 hn1 hc1, .slice h2 hn2 hc2, .int .i64 M.fuel, .int .i64 M.bad] 27 (0, 0))).alloc (.cells #[.int .i64 r0, .int .i64 r1] 31 (0, 0))) wL.heap.size wM.heap.size (.slice h0 hn0 hc0) (.slice h1 hn1 hc1) (.slice h2 hn2 hc2) M) := V_wM.out.move (Nat.le_refl _) (fun g _ hg => hbx.block g (by omega))
  have HHH_W9 : Hid (((wM.alloc (.cells #[.slice h0 hn0 hc0, .slice h1 hn1 hc1, .slice h2 hn2 hc2, .int .i64 M.fuel, .int .i64 M.bad] 27 (0, 0))).alloc (.cells #[.int .i64 r0, .int .i64 r1] 31 (0, 0))).heap[wM.heap.size]? = some (.cells #[.slice h0 hn0 hc0, .slice h1 hn1 hc1, .slice h2 hn2 hc2, .int .i64 M.fuel, .int .i64 M.bad] 27 (0, 0))) := fst_new _ _ _
  have HHV_W9 : Hid (((wM.alloc (.cells #[.slice h0 hn0 hc0, .slice h1 hn1 hc1, .slice h2 hn2 hc2, .int .i64 M.fuel, .int .i64 M.bad] 27 (0, 0))).alloc (.cells #[.int .i64 r0, .int .i64 r1] 31 (0, 0))).heap[wM.heap.size + 1]? = some (.cells #[.int .i64 r0, .int .i64 r1] 31 (0, 0))) := snd_new _ _ _
  have zs_W9 : ((wM.alloc (.cells #[.slice h0 hn0 hc0, .slice h1 hn1 hc1, .slice h2 hn2 hc2, .int .i64 M.fuel, .int .i64 M.bad] 27 (0, 0))).alloc (.cells #[.int .i64 r0, .int .i64 r1] 31 (0, 0))).heap.size = wM.heap.size + 2 := by simp
  clear hbx
  clear HA_wM HS_wM HSV_wM HX_wM HG_wM HGV_wM BL_wM S_wM Q_wM V_wM
  generalize ((wM.alloc (.cells #[.slice h0 hn0 hc0, .slice h1 hn1 hc1, .slice h2 hn2 hc2, .int .i64 M.fuel, .int .i64 M.bad] 27 (0, 0))).alloc (.cells #[.int .i64 r0, .int .i64 r1] 31 (0, 0))) = W9 at HA_W9 HS_W9 HSV_W9 HX_W9 HG_W9 HGV_W9 HHH_W9 HHV_W9 BL_W9 z_W9 zs_W9 S_W9 Q_W9 V_W9 ⊢
  have kHH0 : W9.cell? ⟨wM.heap.size, 0, none⟩ = some (.slice h0 hn0 hc0) := cell_at HHH_W9.out 0
  have kHH1 : W9.cell? ⟨wM.heap.size, 1, none⟩ = some (.slice h1 hn1 hc1) := cell_at HHH_W9.out 1
  have kHH2 : W9.cell? ⟨wM.heap.size, 2, none⟩ = some (.slice h2 hn2 hc2) := cell_at HHH_W9.out 2
  have kHH3 : W9.cell? ⟨wM.heap.size, 3, none⟩ = some (.int .i64 M.fuel) := cell_at HHH_W9.out 3
  have kHH4 : W9.cell? ⟨wM.heap.size, 4, none⟩ = some (.int .i64 M.bad) := cell_at HHH_W9.out 4
  have kS0 : W9.cell? ⟨wB.heap.size, 0, none⟩ = some (.slice s0 sn0 sc0) := cell_at HS_W9.out 0
  have kS1 : W9.cell? ⟨wB.heap.size, 1, none⟩ = some (.slice s1 sn1 sc1) := cell_at HS_W9.out 1
  have kS2 : W9.cell? ⟨wB.heap.size, 2, none⟩ = some (.slice s2 sn2 sc2) := cell_at HS_W9.out 2
  have kS3 : W9.cell? ⟨wB.heap.size, 3, none⟩ = some (.int .i64 M.fuel) := cell_at HS_W9.out 3
  have kS4 : W9.cell? ⟨wB.heap.size, 4, none⟩ = some (.int .i64 M.bad) := cell_at HS_W9.out 4
  go_at_call 46
  refine Calls.mono (cE.out _ _ _ _ _ _ _ _ _ _ _ _ _ _ _ _ _ _ _ (V_W9.out.row.up (by omega)) (S_W9.out.up (by omega))) ?_
  rintro e wN ⟨rfl, hb⟩
  have HA_wN : Hid (wN.heap[w.heap.size]? = some (.cells #[a0, a1, a2, .int .i64 fu, .int .i64 bd] 58 (0, 0))) := stay1 HA_W9.out hb
  have HS_wN : Hid (wN.heap[wB.heap.size]? = some (.cells #[.slice s0 sn0 sc0, .slice s1 sn1 sc1, .slice s2 sn2 sc2, .int .i64 M.fuel, .int .i64 M.bad] 27 (0, 0))) := stay1 HS_W9.out hb
  have HSV_wN : Hid (wN.heap[wB.heap.size + 1]? = some (.cells #[.int .i64 r0, .int .i64 r1] 31 (0, 0))) := stay1 HSV_W9.out hb
  have HX_wN : Hid (wN.heap[wC.heap.size]? = some (.cells #[.slice x0 xn0 xc0, .slice x1 xn1 xc1, .slice x2 xn2 xc2, .int .i64 fu, .int .i64 bd] 27 (0, 0))) := stay1 HX_W9.out hb
  have HG_wN : Hid (wN.heap[wD.heap.size]? = some (.cells #[.slice g0 gn0 gc0, .slice g1 gn1 gc1, .slice g2 gn2 gc2, .int .i64 M.fuel, .int .i64 M.bad] 27 (0, 0))) := stay1 HG_W9.out hb
  have HGV_wN : Hid (wN.heap[wD.heap.size + 1]? = some (.cells #[.int .i64 r0, .int .i64 r1] 31 (0, 0))) := stay1 HGV_W9.out hb
  have HHH_wN : Hid (wN.heap[wM.heap.size]? = some (.cells #[.slice h0 hn0 hc0, .slice h1 hn1 hc1, .slice h2 hn2 hc2, .int .i64 M.fuel, .int .i64 M.bad] 27 (0, 0))) := stay1 HHH_W9.out hb
  have HHV_wN : Hid (wN.heap[wM.heap.size + 1]? = some (.cells #[.int .i64 r0, .int .i64 r1] 31 (0, 0))) := stay1 HHV_W9.out hb
  have z_wN : W9.heap.size ≤ wN.heap.size := hb.size
  have BL_wN : Hid (Below w.heap.size w wN) := BL_W9.out.trans (hb.mono BL_W9.out.size)
  have S_wN : Hid (RowMm wN wB.heap.size (.slice s0 sn0 sc0) (.slice s1 sn1 sc1) (.slice s2 sn2 sc2) M) := S_W9.out.keep (hb.mono (by omega))
  have Q_wN : Hid (RowMm wN wD.heap.size (.slice g0 gn0 gc0) (.slice g1 gn1 gc1) (.slice g2 gn2 gc2) (mkMm M)) := Q_W9.out.keep (hb.mono (by omega))
  have V_wN : Hid (OwnMm wN wL.heap.size wM.heap.size (.slice h0 hn0 hc0) (.slice h1 hn1 hc1) (.slice h2 hn2 hc2) M) := V_W9.out.move (Nat.le_refl _) (fun g _ hg => hb.block g (by omega))
  clear hb
  clear HA_W9 HS_W9 HSV_W9 HX_W9 HG_W9 HGV_W9 HHH_W9 HHV_W9 BL_W9 S_W9 Q_W9 V_W9
  clear kHH0 kHH1 kHH2 kHH3 kHH4 kS0 kS1 kS2 kS3 kS4
  have kHV0 : wN.cell? ⟨wM.heap.size + 1, 0, none⟩ = some (.int .i64 r0) := cell_at HHV_wN.out 0
  have kHV1 : wN.cell? ⟨wM.heap.size + 1, 1, none⟩ = some (.int .i64 r1) := cell_at HHV_wN.out 1
  have kSV0 : wN.cell? ⟨wB.heap.size + 1, 0, none⟩ = some (.int .i64 r0) := cell_at HSV_wN.out 0
  have kSV1 : wN.cell? ⟨wB.heap.size + 1, 1, none⟩ = some (.int .i64 r1) := cell_at HSV_wN.out 1
  go_wp2_with fail
  go_at_call 53
  refine Calls.mono (eqValue_is _ _ _) ?_
  rintro e wN2 ⟨rfl, hb⟩
  have HA_wN2 : Hid (wN2.heap[w.heap.size]? = some (.cells #[a0, a1, a2, .int .i64 fu, .int .i64 bd] 58 (0, 0))) := stay1 HA_wN.out hb
  have HS_wN2 : Hid (wN2.heap[wB.heap.size]? = some (.cells #[.slice s0 sn0 sc0, .slice s1 sn1 sc1, .slice s2 sn2 sc2, .int .i64 M.fuel, .int .i64 M.bad] 27 (0, 0))) := stay1 HS_wN.out hb
  have HSV_wN2 : Hid (wN2.heap[wB.heap.size + 1]? = some (.cells #[.int .i64 r0, .int .i64 r1] 31 (0, 0))) := stay1 HSV_wN.out hb
  have HX_wN2 : Hid (wN2.heap[wC.heap.size]? = some (.cells #[.slice x0 xn0 xc0, .slice x1 xn1 xc1, .slice x2 xn2 xc2, .int .i64 fu, .int .i64 bd] 27 (0, 0))) := stay1 HX_wN.out hb
  have HG_wN2 : Hid (wN2.heap[wD.heap.size]? = some (.cells #[.slice g0 gn0 gc0, .slice g1 gn1 gc1, .slice g2 gn2 gc2, .int .i64 M.fuel, .int .i64 M.bad] 27 (0, 0))) := stay1 HG_wN.out hb
  have HGV_wN2 : Hid (wN2.heap[wD.heap.size + 1]? = some (.cells #[.int .i64 r0, .int .i64 r1] 31 (0, 0))) := stay1 HGV_wN.out hb
  have HHH_wN2 : Hid (wN2.heap[wM.heap.size]? = some (.cells #[.slice h0 hn0 hc0, .slice h1 hn1 hc1, .slice h2 hn2 hc2, .int .i64 M.fuel, .int .i64 M.bad] 27 (0, 0))) := stay1 HHH_wN.out hb
  have HHV_wN2 : Hid (wN2.heap[wM.heap.size + 1]? = some (.cells #[.int .i64 r0, .int .i64 r1] 31 (0, 0))) := stay1 HHV_wN.out hb
  have z_wN2 : wN.heap.size ≤ wN2.heap.size := hb.size
  have BL_wN2 : Hid (Below w.heap.size w wN2) := BL_wN.out.trans (hb.mono BL_wN.out.size)
  have S_wN2 : Hid (RowMm wN2 wB.heap.size (.slice s0 sn0 sc0) (.slice s1 sn1 sc1) (.slice s2 sn2 sc2) M) := S_wN.out.keep (hb.mono (by omega))
  have Q_wN2 : Hid (RowMm wN2 wD.heap.size (.slice g0 gn0 gc0) (.slice g1 gn1 gc1) (.slice g2 gn2 gc2) (mkMm M)) := Q_wN.out.keep (hb.mono (by omega))
  have V_wN2 : Hid (OwnMm wN2 wL.heap.size wM.heap.size (.slice h0 hn0 hc0) (.slice h1 hn1 hc1) (.slice h2 hn2 hc2) M) := V_wN.out.move (Nat.le_refl _) (fun g _ hg => hb.block g (by omega))
  clear hb
  clear kHV0 kHV1 kSV0 kSV1
  clear HA_wN HS_wN HSV_wN HX_wN HG_wN HGV_wN HHH_wN HHV_wN BL_wN S_wN Q_wN V_wN
  have kG0 : wN2.cell? ⟨wD.heap.size, 0, none⟩ = some (.slice g0 gn0 gc0) := cell_at HG_wN2.out 0
  have kG1 : wN2.cell? ⟨wD.heap.size, 1, none⟩ = some (.slice g1 gn1 gc1) := cell_at HG_wN2.out 1
  have kG2 : wN2.cell? ⟨wD.heap.size, 2, none⟩ = some (.slice g2 gn2 gc2) := cell_at HG_wN2.out 2
  have kG3 : wN2.cell? ⟨wD.heap.size, 3, none⟩ = some (.int .i64 M.fuel) := cell_at HG_wN2.out 3
  have kG4 : wN2.cell? ⟨wD.heap.size, 4, none⟩ = some (.int .i64 M.bad) := cell_at HG_wN2.out 4
  go_wp2_with fail
  go_at_call 50
  refine Calls.mono (cH.out _ _ _ _ _ _ _ _ _ _ (Q_wN2.out.up (by omega))) ?_
  rintro e wO ⟨rfl, hb⟩
  have HA_wO : Hid (wO.heap[w.heap.size]? = some (.cells #[a0, a1, a2, .int .i64 fu, .int .i64 bd] 58 (0, 0))) := stay1 HA_wN2.out hb
  have HS_wO : Hid (wO.heap[wB.heap.size]? = some (.cells #[.slice s0 sn0 sc0, .slice s1 sn1 sc1, .slice s2 sn2 sc2, .int .i64 M.fuel, .int .i64 M.bad] 27 (0, 0))) := stay1 HS_wN2.out hb
  have HSV_wO : Hid (wO.heap[wB.heap.size + 1]? = some (.cells #[.int .i64 r0, .int .i64 r1] 31 (0, 0))) := stay1 HSV_wN2.out hb
  have HX_wO : Hid (wO.heap[wC.heap.size]? = some (.cells #[.slice x0 xn0 xc0, .slice x1 xn1 xc1, .slice x2 xn2 xc2, .int .i64 fu, .int .i64 bd] 27 (0, 0))) := stay1 HX_wN2.out hb
  have HG_wO : Hid (wO.heap[wD.heap.size]? = some (.cells #[.slice g0 gn0 gc0, .slice g1 gn1 gc1, .slice g2 gn2 gc2, .int .i64 M.fuel, .int .i64 M.bad] 27 (0, 0))) := stay1 HG_wN2.out hb
  have HGV_wO : Hid (wO.heap[wD.heap.size + 1]? = some (.cells #[.int .i64 r0, .int .i64 r1] 31 (0, 0))) := stay1 HGV_wN2.out hb
  have HHH_wO : Hid (wO.heap[wM.heap.size]? = some (.cells #[.slice h0 hn0 hc0, .slice h1 hn1 hc1, .slice h2 hn2 hc2, .int .i64 M.fuel, .int .i64 M.bad] 27 (0, 0))) := stay1 HHH_wN2.out hb
  have HHV_wO : Hid (wO.heap[wM.heap.size + 1]? = some (.cells #[.int .i64 r0, .int .i64 r1] 31 (0, 0))) := stay1 HHV_wN2.out hb
  have z_wO : wN2.heap.size ≤ wO.heap.size := hb.size
  have BL_wO : Hid (Below w.heap.size w wO) := BL_wN2.out.trans (hb.mono BL_wN2.out.size)
  have S_wO : Hid (RowMm wO wB.heap.size (.slice s0 sn0 sc0) (.slice s1 sn1 sc1) (.slice s2 sn2 sc2) M) := S_wN2.out.keep (hb.mono (by omega))
  have Q_wO : Hid (RowMm wO wD.heap.size (.slice g0 gn0 gc0) (.slice g1 gn1 gc1) (.slice g2 gn2 gc2) (mkMm M)) := Q_wN2.out.keep (hb.mono (by omega))
  have V_wO : Hid (OwnMm wO wL.heap.size wM.heap.size (.slice h0 hn0 hc0) (.slice h1 hn1 hc1) (.slice h2 hn2 hc2) M) := V_wN2.out.move (Nat.le_refl _) (fun g _ hg => hb.block g (by omega))
  clear hb
  clear kG0 kG1 kG2 kG3 kG4
  clear HA_wN2 HS_wN2 HSV_wN2 HX_wN2 HG_wN2 HGV_wN2 HHH_wN2 HHV_wN2 BL_wN2 S_wN2 Q_wN2 V_wN2
  go_wp2
  go_ret
  exact ⟨rfl, BL_wO.out⟩

end Go.Proofs.Ytogdofdgkhkcaaa
