/-
  The law of MemoryNew: at every argument it answers true. Written by mkmemnew.py.
-/
import Derived.Test.YtogdofdgkhkcaaaMemNew
import Derived.Test.YtogdofdgkhkcaaaRa
import Derived.Test.YtogdofdgkhkcaaaImChH
namespace Go.Proofs.Ytogdofdgkhkcaaa
open Go.RowKit

theorem stay1 {W W' : World} {b : Nat} {o : Obj} (h : W.heap[b]? = some o) (hb : Below W.heap.size W W') : W'.heap[b]? = some o := by
  rcases Nat.lt_or_ge b W.heap.size with h2 | h2
  · exact (hb.block _ h2).trans h
  · rw [Array.getElem?_eq_none h2] at h; cases h
theorem stayr {W W' : World} {b B H : Nat} {o : Obj} (h : W.heap[b]? = some o) (hb : Rim B H W W') (hd : b < B ∨ H ≤ b) : W'.heap[b]? = some o := by
  rcases Nat.lt_or_ge b W.heap.size with h2 | h2
  · exact (hb.block _ h2 hd).trans h
  · rw [Array.getElem?_eq_none h2] at h; cases h

set_option maxRecDepth 100000 in
set_option maxHeartbeats 6400000 in
theorem lawMemoryNew (v : Value) (xs : List Int) (f : Int) (w : World) (hp : RowI w w.heap.size v xs ∧ xs.length ≤ 9223372036854775807 ∧ ∀ z ∈ xs, (Lit.int .i64 z).wf = true) :
    Calls Try.prog 5 #[v, .int .i64 f] w fun e w' => e = .returned (.bool true) ∧ Below w.heap.size w w' := by
  obtain ⟨ia, ic, rfl⟩ := hp.1.len
  obtain ⟨N, HN⟩ : ∃ N, Hid (xs.length = N) := ⟨_, (rfl : xs.length = xs.length)⟩
  rw [HN.out] at hp ⊢
  by_cases hbig : (N : Int) > 1048576
  · clear hp
    go_enter Try.func5, Try.ntmps5
    go_wp2
    go_ret
    exact ⟨rfl, Below.refl _ _⟩
  have hlx : xs.length ≤ 1048576 := by have := HN.out; omega
  obtain ⟨M, hM⟩ : ∃ M, Hid (newM xs f = M) := ⟨_, (rfl : newM xs f = newM xs f)⟩
  have hMf : M.fuel = f ∧ M.bad = 0 := by rw [← hM.out]; exact ⟨rfl, rfl⟩
  have hMz : szMm M ≤ 1048576 := by rw [← hM.out]; unfold szMm newM; rw [szRowCe_len]; simp; exact hlx
  have cT : Hid (∀ W, Below w.heap.size w W → Calls Try.prog 45 #[.slice ia N ic] W fun e w' => ∃ g cap, e = .returned (.slice (some ⟨g, 0, none⟩) N cap) ∧ OwnsI w' W.heap.size (.slice (some ⟨g, 0, none⟩) N cap) xs ∧ Below W.heap.size W w') := fun W hW => by
    have := toIntS_any w.heap.size _ xs W hW.size (hp.1.keep hW) hlx
    rw [HN.out] at this
    exact this
  have cS : Hid (∀ W g cap, RowI W W.heap.size (.slice (some ⟨g, 0, none⟩) N cap) xs → Calls Try.prog 44 #[.slice (some ⟨g, 0, none⟩) N cap, .int .i64 f] W fun e w' => ∃ a1 n1 c1, e = .returned (.agg #[.slice none 0 0, .slice a1 n1 c1, .slice none 0 0, .int .i64 f, .int .i64 0]) ∧ RowMm w' w'.heap.size (.slice none 0 0) (.slice a1 n1 c1) (.slice none 0 0) M ∧ Below W.heap.size W w') := fun W g cap h => by
    rw [← hM.out]
    exact specNew_any W.heap.size _ _ _ xs f W (Nat.le_refl _) h trivial (by omega)
  have cI : Hid (∀ W g cap, RowI W W.heap.size (.slice (some ⟨g, 0, none⟩) N cap) xs → Calls Try.prog 43 #[.slice (some ⟨g, 0, none⟩) N cap, .int .i64 f] W fun e w' => ∃ a1 n1 c1, e = .returned (.agg #[.slice none 0 0, .slice a1 n1 c1, .slice none 0 0, .int .i64 f, .int .i64 0]) ∧ OwnMm w' W.heap.size w'.heap.size (.slice none 0 0) (.slice a1 n1 c1) (.slice none 0 0) M ∧ Below W.heap.size W w') := fun W g cap h => by
    rw [← hM.out]
    exact implNew_any W.heap.size _ _ _ xs f W (Nat.le_refl _) h trivial hlx
  have cE : Hid (∀ W y1 yn yc x1 xn xc, RowMm W W.heap.size (.slice none 0 0) (.slice y1 yn yc) (.slice none 0 0) M → RowMm W W.heap.size (.slice none 0 0) (.slice x1 xn xc) (.slice none 0 0) M → Calls Try.prog 46 #[.agg #[.slice none 0 0, .slice y1 yn yc, .slice none 0 0, .int .i64 f, .int .i64 0], .agg #[.slice none 0 0, .slice x1 xn xc, .slice none 0 0, .int .i64 f, .int .i64 0]] W fun e w' => e = .returned (.bool true) ∧ Below W.heap.size W w') := fun W _ _ _ _ _ _ h h' => by
    have := eqMemory_big W.heap.size M _ _ _ _ _ _ W (Nat.le_refl _) h.1 h'.1 h.2.1 h'.2.1 h.2.2 h'.2.2 (by omega)
    rw [hMf.1, hMf.2] at this
    exact this
  have cEx : Hid (∀ W g cap g' cap', RowI W W.heap.size (.slice (some ⟨g, 0, none⟩) N cap) xs → RowI W W.heap.size (.slice (some ⟨g', 0, none⟩) N cap') xs → Calls Try.prog 47 #[.slice (some ⟨g, 0, none⟩) N cap, .slice (some ⟨g', 0, none⟩) N cap'] W fun e w' => e = .returned (.bool true) ∧ Below W.heap.size W w') := fun W _ _ _ _ h h' => eqIntS_same W.heap.size _ _ xs W (Nat.le_refl _) h h' hlx
  have cKx : Hid (∀ W B g cap, OwnsI W B (.slice (some ⟨g, 0, none⟩) N cap) xs → Calls Try.prog 48 #[.slice (some ⟨g, 0, none⟩) N cap, .int .i64 1] W fun e w' => e = .returned (.int .i64 ((1 + N : Nat) : Int)) ∧ Kept [.slice (some ⟨g, 0, none⟩) N cap] W w') := fun W B _ _ h => by
    have := markIntS_any B _ 1 xs W (by omega) h
    rw [HN.out] at this
    exact this.mono (fun e w' h => ⟨h.1, h.2.2⟩)
  have cK : Hid (∀ W B H y1 yn yc, OwnMm W B H (.slice none 0 0) (.slice y1 yn yc) (.slice none 0 0) M → H ≤ W.heap.size → Calls Try.prog 49 #[.agg #[.slice none 0 0, .slice y1 yn yc, .slice none 0 0, .int .i64 f, .int .i64 0], .int .i64 1] W fun e w' => e = .returned (.int .i64 ((lnMm M : Nat) : Int)) ∧ RowMm w' H (.slice none 0 0) (.slice y1 yn yc) (.slice none 0 0) (mkMm M) ∧ Rim B H W w') := fun W B H _ _ _ h hH => markMemory_any B H _ _ _ f 0 M W h hH (by omega)
  have cH : Hid (∀ W y1 yn yc, RowMm W W.heap.size (.slice none 0 0) (.slice y1 yn yc) (.slice none 0 0) (mkMm M) → Calls Try.prog 50 #[.agg #[.slice none 0 0, .slice y1 yn yc, .slice none 0 0, .int .i64 f, .int .i64 0], .int .i64 1] W fun e w' => e = .returned (.int .i64 ((lnMm M : Nat) : Int)) ∧ Below W.heap.size W w') := fun W _ _ _ h => heldMemory_any W.heap.size _ _ _ f 0 M W (Nat.le_refl _) h (by omega)
  have hlm2 : ¬ ((lnMm M : Nat) : Int) < 0 := by omega
  have hlm1 : ¬ ((1 + N : Nat) : Int) < 0 := by omega
  obtain ⟨lm, hlmE⟩ : ∃ l, Hid (1 + N = l) := ⟨_, (rfl : 1 + N = 1 + N)⟩
  obtain ⟨lM, hlME⟩ : ∃ l, Hid (lnMm M = l) := ⟨_, (rfl : lnMm M = lnMm M)⟩
  rw [hlmE.out] at cKx hlm1
  rw [hlME.out] at cK cH hlm2
  have BL_w : Hid (Below w.heap.size w w) := Below.refl _ _
  clear hp hMf hMz hlx
  go_enter Try.func5, Try.ntmps5
  go_wp2_with fail
  go_at_call 45
  refine Calls.mono (cT.out _ BL_w.out) ?_
  rintro e wA ⟨pg, pc, rfl, hO, hb⟩
  have z_wA : w.heap.size ≤ wA.heap.size := hb.size
  have BL_wA : Hid (Below w.heap.size w wA) := BL_w.out.trans (hb.mono BL_w.out.size)
  have P_wA : Hid (OwnsI wA w.heap.size (.slice (some ⟨pg, 0, none⟩) N pc) xs) := hO
  clear hO hb
  clear BL_w
  go_wp2_with fail
  go_at_call 44
  refine Calls.mono (cS.out _ _ _ (OwnsI.row P_wA.out)) ?_
  rintro e wB ⟨s1, sn, sc, rfl, hR, hb⟩
  clear P_wA
  have z_wB : wA.heap.size ≤ wB.heap.size := hb.size
  have BL_wB : Hid (Below w.heap.size w wB) := BL_wA.out.trans (hb.mono BL_wA.out.size)
  have S_wB : Hid (RowMm wB wB.heap.size (.slice none 0 0) (.slice s1 sn sc) (.slice none 0 0) M) := hR
  clear hR hb
  clear BL_wA
  go_wp2_with fail
  have hbx : Below wB.heap.size wB (wB.alloc (.cells #[.slice none 0 0, .slice s1 sn sc, .slice none 0 0, .int .i64 f, .int .i64 0] 27 (0, 0))) := by go_grown
  have z_W2 : wB.heap.size ≤ (wB.alloc (.cells #[.slice none 0 0, .slice s1 sn sc, .slice none 0 0, .int .i64 f, .int .i64 0] 27 (0, 0))).heap.size := hbx.size
  have BL_W2 : Hid (Below w.heap.size w (wB.alloc (.cells #[.slice none 0 0, .slice s1 sn sc, .slice none 0 0, .int .i64 f, .int .i64 0] 27 (0, 0)))) := BL_wB.out.trans (hbx.mono BL_wB.out.size)
  have S_W2 : Hid (RowMm (wB.alloc (.cells #[.slice none 0 0, .slice s1 sn sc, .slice none 0 0, .int .i64 f, .int .i64 0] 27 (0, 0))) wB.heap.size (.slice none 0 0) (.slice s1 sn sc) (.slice none 0 0) M) := S_wB.out.keep (hbx.mono (by omega))
  have HS_W2 : Hid ((wB.alloc (.cells #[.slice none 0 0, .slice s1 sn sc, .slice none 0 0, .int .i64 f, .int .i64 0] 27 (0, 0))).heap[wB.heap.size]? = some (.cells #[.slice none 0 0, .slice s1 sn sc, .slice none 0 0, .int .i64 f, .int .i64 0] 27 (0, 0))) := heap_alloc_new _ _
  have zs_W2 : (wB.alloc (.cells #[.slice none 0 0, .slice s1 sn sc, .slice none 0 0, .int .i64 f, .int .i64 0] 27 (0, 0))).heap.size = wB.heap.size + 1 := by simp
  clear hbx
  clear BL_wB S_wB
  generalize (wB.alloc (.cells #[.slice none 0 0, .slice s1 sn sc, .slice none 0 0, .int .i64 f, .int .i64 0] 27 (0, 0))) = W2 at HS_W2 BL_W2 z_W2 zs_W2 S_W2 ⊢
  go_at_call 45
  refine Calls.mono (cT.out _ BL_W2.out) ?_
  rintro e wC ⟨xg, xc, rfl, hO, hb⟩
  have HS_wC : Hid (wC.heap[wB.heap.size]? = some (.cells #[.slice none 0 0, .slice s1 sn sc, .slice none 0 0, .int .i64 f, .int .i64 0] 27 (0, 0))) := stay1 HS_W2.out hb
  have z_wC : W2.heap.size ≤ wC.heap.size := hb.size
  have BL_wC : Hid (Below w.heap.size w wC) := BL_W2.out.trans (hb.mono BL_W2.out.size)
  have S_wC : Hid (RowMm wC wB.heap.size (.slice none 0 0) (.slice s1 sn sc) (.slice none 0 0) M) := S_W2.out.keep (hb.mono (by omega))
  have X_wC : Hid (OwnsI wC W2.heap.size (.slice (some ⟨xg, 0, none⟩) N xc) xs) := hO
  have hxg : W2.heap.size ≤ xg ∧ xg < wC.heap.size := OwnsR.lt hO xg (by simp [fpOf, Value.ownBlock])
  clear hO hb
  clear HS_W2 BL_W2 S_W2
  go_wp2_with fail
  go_at_call 43
  refine Calls.mono (cI.out _ _ _ (OwnsI.row X_wC.out)) ?_
  rintro e wD ⟨g1, gn, gc, rfl, hO, hb⟩
  have HS_wD : Hid (wD.heap[wB.heap.size]? = some (.cells #[.slice none 0 0, .slice s1 sn sc, .slice none 0 0, .int .i64 f, .int .i64 0] 27 (0, 0))) := stay1 HS_wC.out hb
  have z_wD : wC.heap.size ≤ wD.heap.size := hb.size
  have BL_wD : Hid (Below w.heap.size w wD) := BL_wC.out.trans (hb.mono BL_wC.out.size)
  have S_wD : Hid (RowMm wD wB.heap.size (.slice none 0 0) (.slice s1 sn sc) (.slice none 0 0) M) := S_wC.out.keep (hb.mono (by omega))
  have X_wD : Hid (OwnsI wD W2.heap.size (.slice (some ⟨xg, 0, none⟩) N xc) xs) := OwnsR.below X_wC.out hb
  have G_wD : Hid (OwnMm wD wC.heap.size wD.heap.size (.slice none 0 0) (.slice g1 gn gc) (.slice none 0 0) M) := hO
  clear hO hb
  clear HS_wC BL_wC S_wC X_wC
  have kS0 : wD.cell? ⟨wB.heap.size, 0, none⟩ = some (.slice none 0 0) := cell_at HS_wD.out 0
  have kS1 : wD.cell? ⟨wB.heap.size, 1, none⟩ = some (.slice s1 sn sc) := cell_at HS_wD.out 1
  have kS2 : wD.cell? ⟨wB.heap.size, 2, none⟩ = some (.slice none 0 0) := cell_at HS_wD.out 2
  have kS3 : wD.cell? ⟨wB.heap.size, 3, none⟩ = some (.int .i64 f) := cell_at HS_wD.out 3
  have kS4 : wD.cell? ⟨wB.heap.size, 4, none⟩ = some (.int .i64 0) := cell_at HS_wD.out 4
  have lS_wD : wB.heap.size < wD.heap.size := by omega
  go_wp2_with fail
  clear kS0 kS1 kS2 kS3 kS4
  have hbx : Below wD.heap.size wD (wD.alloc (.cells #[.slice none 0 0, .slice g1 gn gc, .slice none 0 0, .int .i64 f, .int .i64 0] 27 (0, 0))) := by go_grown
  have HS_W4 : Hid ((wD.alloc (.cells #[.slice none 0 0, .slice g1 gn gc, .slice none 0 0, .int .i64 f, .int .i64 0] 27 (0, 0))).heap[wB.heap.size]? = some (.cells #[.slice none 0 0, .slice s1 sn sc, .slice none 0 0, .int .i64 f, .int .i64 0] 27 (0, 0))) := stay1 HS_wD.out hbx
  have z_W4 : wD.heap.size ≤ (wD.alloc (.cells #[.slice none 0 0, .slice g1 gn gc, .slice none 0 0, .int .i64 f, .int .i64 0] 27 (0, 0))).heap.size := hbx.size
  have BL_W4 : Hid (Below w.heap.size w (wD.alloc (.cells #[.slice none 0 0, .slice g1 gn gc, .slice none 0 0, .int .i64 f, .int .i64 0] 27 (0, 0)))) := BL_wD.out.trans (hbx.mono BL_wD.out.size)
  have S_W4 : Hid (RowMm (wD.alloc (.cells #[.slice none 0 0, .slice g1 gn gc, .slice none 0 0, .int .i64 f, .int .i64 0] 27 (0, 0))) wB.heap.size (.slice none 0 0) (.slice s1 sn sc) (.slice none 0 0) M) := S_wD.out.keep (hbx.mono (by omega))
  have X_W4 : Hid (OwnsI (wD.alloc (.cells #[.slice none 0 0, .slice g1 gn gc, .slice none 0 0, .int .i64 f, .int .i64 0] 27 (0, 0))) W2.heap.size (.slice (some ⟨xg, 0, none⟩) N xc) xs) := OwnsR.below X_wD.out hbx
  have G_W4 : Hid (OwnMm (wD.alloc (.cells #[.slice none 0 0, .slice g1 gn gc, .slice none 0 0, .int .i64 f, .int .i64 0] 27 (0, 0))) wC.heap.size wD.heap.size (.slice none 0 0) (.slice g1 gn gc) (.slice none 0 0) M) := G_wD.out.move (Nat.le_refl _) (fun g _ hg => hbx.block g (by omega))
  have HG_W4 : Hid ((wD.alloc (.cells #[.slice none 0 0, .slice g1 gn gc, .slice none 0 0, .int .i64 f, .int .i64 0] 27 (0, 0))).heap[wD.heap.size]? = some (.cells #[.slice none 0 0, .slice g1 gn gc, .slice none 0 0, .int .i64 f, .int .i64 0] 27 (0, 0))) := heap_alloc_new _ _
  have zs_W4 : (wD.alloc (.cells #[.slice none 0 0, .slice g1 gn gc, .slice none 0 0, .int .i64 f, .int .i64 0] 27 (0, 0))).heap.size = wD.heap.size + 1 := by simp
  clear hbx
  clear HS_wD BL_wD S_wD X_wD G_wD
  generalize (wD.alloc (.cells #[.slice none 0 0, .slice g1 gn gc, .slice none 0 0, .int .i64 f, .int .i64 0] 27 (0, 0))) = W4 at HS_W4 HG_W4 BL_W4 z_W4 zs_W4 S_W4 X_W4 G_W4 ⊢
  have kG0 : W4.cell? ⟨wD.heap.size, 0, none⟩ = some (.slice none 0 0) := cell_at HG_W4.out 0
  have kG1 : W4.cell? ⟨wD.heap.size, 1, none⟩ = some (.slice g1 gn gc) := cell_at HG_W4.out 1
  have kG2 : W4.cell? ⟨wD.heap.size, 2, none⟩ = some (.slice none 0 0) := cell_at HG_W4.out 2
  have kG3 : W4.cell? ⟨wD.heap.size, 3, none⟩ = some (.int .i64 f) := cell_at HG_W4.out 3
  have kG4 : W4.cell? ⟨wD.heap.size, 4, none⟩ = some (.int .i64 0) := cell_at HG_W4.out 4
  have kS0 : W4.cell? ⟨wB.heap.size, 0, none⟩ = some (.slice none 0 0) := cell_at HS_W4.out 0
  have kS1 : W4.cell? ⟨wB.heap.size, 1, none⟩ = some (.slice s1 sn sc) := cell_at HS_W4.out 1
  have kS2 : W4.cell? ⟨wB.heap.size, 2, none⟩ = some (.slice none 0 0) := cell_at HS_W4.out 2
  have kS3 : W4.cell? ⟨wB.heap.size, 3, none⟩ = some (.int .i64 f) := cell_at HS_W4.out 3
  have kS4 : W4.cell? ⟨wB.heap.size, 4, none⟩ = some (.int .i64 0) := cell_at HS_W4.out 4
  go_at_call 46
  refine Calls.mono (cE.out _ _ _ _ _ _ _ (G_W4.out.row.up (by omega)) (S_W4.out.up (by omega))) ?_
  rintro e wE ⟨rfl, hb⟩
  have HS_wE : Hid (wE.heap[wB.heap.size]? = some (.cells #[.slice none 0 0, .slice s1 sn sc, .slice none 0 0, .int .i64 f, .int .i64 0] 27 (0, 0))) := stay1 HS_W4.out hb
  have HG_wE : Hid (wE.heap[wD.heap.size]? = some (.cells #[.slice none 0 0, .slice g1 gn gc, .slice none 0 0, .int .i64 f, .int .i64 0] 27 (0, 0))) := stay1 HG_W4.out hb
  have z_wE : W4.heap.size ≤ wE.heap.size := hb.size
  have BL_wE : Hid (Below w.heap.size w wE) := BL_W4.out.trans (hb.mono BL_W4.out.size)
  have S_wE : Hid (RowMm wE wB.heap.size (.slice none 0 0) (.slice s1 sn sc) (.slice none 0 0) M) := S_W4.out.keep (hb.mono (by omega))
  have X_wE : Hid (OwnsI wE W2.heap.size (.slice (some ⟨xg, 0, none⟩) N xc) xs) := OwnsR.below X_W4.out hb
  have G_wE : Hid (OwnMm wE wC.heap.size wD.heap.size (.slice none 0 0) (.slice g1 gn gc) (.slice none 0 0) M) := G_W4.out.move (Nat.le_refl _) (fun g _ hg => hb.block g (by omega))
  clear hb
  clear HS_W4 HG_W4 BL_W4 S_W4 X_W4 G_W4
  clear kG0 kG1 kG2 kG3 kG4 kS0 kS1 kS2 kS3 kS4
  go_wp2_with fail
  go_at_call 45
  refine Calls.mono (cT.out _ BL_wE.out) ?_
  rintro e wF ⟨fg, fc, rfl, hO, hb⟩
  have HS_wF : Hid (wF.heap[wB.heap.size]? = some (.cells #[.slice none 0 0, .slice s1 sn sc, .slice none 0 0, .int .i64 f, .int .i64 0] 27 (0, 0))) := stay1 HS_wE.out hb
  have HG_wF : Hid (wF.heap[wD.heap.size]? = some (.cells #[.slice none 0 0, .slice g1 gn gc, .slice none 0 0, .int .i64 f, .int .i64 0] 27 (0, 0))) := stay1 HG_wE.out hb
  have z_wF : wE.heap.size ≤ wF.heap.size := hb.size
  have BL_wF : Hid (Below w.heap.size w wF) := BL_wE.out.trans (hb.mono BL_wE.out.size)
  have S_wF : Hid (RowMm wF wB.heap.size (.slice none 0 0) (.slice s1 sn sc) (.slice none 0 0) M) := S_wE.out.keep (hb.mono (by omega))
  have X_wF : Hid (OwnsI wF W2.heap.size (.slice (some ⟨xg, 0, none⟩) N xc) xs) := OwnsR.below X_wE.out hb
  have G_wF : Hid (OwnMm wF wC.heap.size wD.heap.size (.slice none 0 0) (.slice g1 gn gc) (.slice none 0 0) M) := G_wE.out.move (Nat.le_refl _) (fun g _ hg => hb.block g (by omega))
  have R_wF : Hid (RowI wF wF.heap.size (.slice (some ⟨fg, 0, none⟩) N fc) xs) := OwnsI.row hO
  clear hO hb
  clear HS_wE HG_wE BL_wE S_wE X_wE G_wE
  go_wp2_with fail
  go_at_call 47
  refine Calls.mono (cEx.out _ _ _ _ _ (OwnsI.row X_wF.out) R_wF.out) ?_
  rintro e wG ⟨rfl, hb⟩
  have HS_wG : Hid (wG.heap[wB.heap.size]? = some (.cells #[.slice none 0 0, .slice s1 sn sc, .slice none 0 0, .int .i64 f, .int .i64 0] 27 (0, 0))) := stay1 HS_wF.out hb
  have HG_wG : Hid (wG.heap[wD.heap.size]? = some (.cells #[.slice none 0 0, .slice g1 gn gc, .slice none 0 0, .int .i64 f, .int .i64 0] 27 (0, 0))) := stay1 HG_wF.out hb
  have z_wG : wF.heap.size ≤ wG.heap.size := hb.size
  have BL_wG : Hid (Below w.heap.size w wG) := BL_wF.out.trans (hb.mono BL_wF.out.size)
  have S_wG : Hid (RowMm wG wB.heap.size (.slice none 0 0) (.slice s1 sn sc) (.slice none 0 0) M) := S_wF.out.keep (hb.mono (by omega))
  have X_wG : Hid (OwnsI wG W2.heap.size (.slice (some ⟨xg, 0, none⟩) N xc) xs) := OwnsR.below X_wF.out hb
  have G_wG : Hid (OwnMm wG wC.heap.size wD.heap.size (.slice none 0 0) (.slice g1 gn gc) (.slice none 0 0) M) := G_wF.out.move (Nat.le_refl _) (fun g _ hg => hb.block g (by omega))
  clear hb R_wF
  clear HS_wF HG_wF BL_wF S_wF X_wF G_wF
  go_wp2_with fail
  go_at_call 48
  refine Calls.mono (cKx.out _ _ _ _ X_wG.out) ?_
  rintro e wH ⟨rfl, hKp⟩
  have hR : Rim W2.heap.size wC.heap.size wG wH := Rim.of_kept hKp (fun g hg => by
    have : g = xg := by simpa [fps, fpOf, Value.ownBlock] using hg
    omega)
  clear X_wG hKp
  have HS_wH : Hid (wH.heap[wB.heap.size]? = some (.cells #[.slice none 0 0, .slice s1 sn sc, .slice none 0 0, .int .i64 f, .int .i64 0] 27 (0, 0))) := stayr HS_wG.out hR (by omega)
  have HG_wH : Hid (wH.heap[wD.heap.size]? = some (.cells #[.slice none 0 0, .slice g1 gn gc, .slice none 0 0, .int .i64 f, .int .i64 0] 27 (0, 0))) := stayr HG_wG.out hR (by omega)
  have z_wH : wG.heap.size ≤ wH.heap.size := hR.size
  have BL_wH : Hid (Below w.heap.size w wH) := BL_wG.out.trans ((hR.below (by omega)).mono (by omega))
  have S_wH : Hid (RowMm wH wB.heap.size (.slice none 0 0) (.slice s1 sn sc) (.slice none 0 0) M) := S_wG.out.keep ((hR.below (by omega)).mono (by omega))
  have G_wH : Hid (OwnMm wH wC.heap.size wD.heap.size (.slice none 0 0) (.slice g1 gn gc) (.slice none 0 0) M) := G_wG.out.move (Nat.le_refl _) (fun g hg hg2 => hR.block g (by omega) (by omega))
  clear hR
  clear HS_wG HG_wG BL_wG S_wG G_wG
  have kG0 : wH.cell? ⟨wD.heap.size, 0, none⟩ = some (.slice none 0 0) := cell_at HG_wH.out 0
  have kG1 : wH.cell? ⟨wD.heap.size, 1, none⟩ = some (.slice g1 gn gc) := cell_at HG_wH.out 1
  have kG2 : wH.cell? ⟨wD.heap.size, 2, none⟩ = some (.slice none 0 0) := cell_at HG_wH.out 2
  have kG3 : wH.cell? ⟨wD.heap.size, 3, none⟩ = some (.int .i64 f) := cell_at HG_wH.out 3
  have kG4 : wH.cell? ⟨wD.heap.size, 4, none⟩ = some (.int .i64 0) := cell_at HG_wH.out 4
  have kS0 : wH.cell? ⟨wB.heap.size, 0, none⟩ = some (.slice none 0 0) := cell_at HS_wH.out 0
  have kS1 : wH.cell? ⟨wB.heap.size, 1, none⟩ = some (.slice s1 sn sc) := cell_at HS_wH.out 1
  have kS2 : wH.cell? ⟨wB.heap.size, 2, none⟩ = some (.slice none 0 0) := cell_at HS_wH.out 2
  have kS3 : wH.cell? ⟨wB.heap.size, 3, none⟩ = some (.int .i64 f) := cell_at HS_wH.out 3
  have kS4 : wH.cell? ⟨wB.heap.size, 4, none⟩ = some (.int .i64 0) := cell_at HS_wH.out 4
  go_wp2_with fail
  go_at_call 46
  refine Calls.mono (cE.out _ _ _ _ _ _ _ (G_wH.out.row.up (by omega)) (S_wH.out.up (by omega))) ?_
  rintro e wI ⟨rfl, hb⟩
  have HS_wI : Hid (wI.heap[wB.heap.size]? = some (.cells #[.slice none 0 0, .slice s1 sn sc, .slice none 0 0, .int .i64 f, .int .i64 0] 27 (0, 0))) := stay1 HS_wH.out hb
  have HG_wI : Hid (wI.heap[wD.heap.size]? = some (.cells #[.slice none 0 0, .slice g1 gn gc, .slice none 0 0, .int .i64 f, .int .i64 0] 27 (0, 0))) := stay1 HG_wH.out hb
  have z_wI : wH.heap.size ≤ wI.heap.size := hb.size
  have BL_wI : Hid (Below w.heap.size w wI) := BL_wH.out.trans (hb.mono BL_wH.out.size)
  have S_wI : Hid (RowMm wI wB.heap.size (.slice none 0 0) (.slice s1 sn sc) (.slice none 0 0) M) := S_wH.out.keep (hb.mono (by omega))
  have G_wI : Hid (OwnMm wI wC.heap.size wD.heap.size (.slice none 0 0) (.slice g1 gn gc) (.slice none 0 0) M) := G_wH.out.move (Nat.le_refl _) (fun g _ hg => hb.block g (by omega))
  clear hb
  clear HS_wH HG_wH BL_wH S_wH G_wH
  clear kG0 kG1 kG2 kG3 kG4 kS0 kS1 kS2 kS3 kS4
  have kG0 : wI.cell? ⟨wD.heap.size, 0, none⟩ = some (.slice none 0 0) := cell_at HG_wI.out 0
  have kG1 : wI.cell? ⟨wD.heap.size, 1, none⟩ = some (.slice g1 gn gc) := cell_at HG_wI.out 1
  have kG2 : wI.cell? ⟨wD.heap.size, 2, none⟩ = some (.slice none 0 0) := cell_at HG_wI.out 2
  have kG3 : wI.cell? ⟨wD.heap.size, 3, none⟩ = some (.int .i64 f) := cell_at HG_wI.out 3
  have kG4 : wI.cell? ⟨wD.heap.size, 4, none⟩ = some (.int .i64 0) := cell_at HG_wI.out 4
  go_wp2_with fail
  go_at_call 49
  refine Calls.mono (cK.out _ _ _ _ _ _ G_wI.out (by omega)) ?_
  rintro e wJ ⟨rfl, hQ, hR⟩
  clear kG0 kG1 kG2 kG3 kG4
  clear G_wI
  have HS_wJ : Hid (wJ.heap[wB.heap.size]? = some (.cells #[.slice none 0 0, .slice s1 sn sc, .slice none 0 0, .int .i64 f, .int .i64 0] 27 (0, 0))) := stayr HS_wI.out hR (by omega)
  have HG_wJ : Hid (wJ.heap[wD.heap.size]? = some (.cells #[.slice none 0 0, .slice g1 gn gc, .slice none 0 0, .int .i64 f, .int .i64 0] 27 (0, 0))) := stayr HG_wI.out hR (by omega)
  have z_wJ : wI.heap.size ≤ wJ.heap.size := hR.size
  have BL_wJ : Hid (Below w.heap.size w wJ) := BL_wI.out.trans ((hR.below (by omega)).mono (by omega))
  have S_wJ : Hid (RowMm wJ wB.heap.size (.slice none 0 0) (.slice s1 sn sc) (.slice none 0 0) M) := S_wI.out.keep ((hR.below (by omega)).mono (by omega))
  have Q_wJ : Hid (RowMm wJ wD.heap.size (.slice none 0 0) (.slice g1 gn gc) (.slice none 0 0) (mkMm M)) := hQ
  clear hR hQ
  clear HS_wI HG_wI BL_wI S_wI
  have kG0 : wJ.cell? ⟨wD.heap.size, 0, none⟩ = some (.slice none 0 0) := cell_at HG_wJ.out 0
  have kG1 : wJ.cell? ⟨wD.heap.size, 1, none⟩ = some (.slice g1 gn gc) := cell_at HG_wJ.out 1
  have kG2 : wJ.cell? ⟨wD.heap.size, 2, none⟩ = some (.slice none 0 0) := cell_at HG_wJ.out 2
  have kG3 : wJ.cell? ⟨wD.heap.size, 3, none⟩ = some (.int .i64 f) := cell_at HG_wJ.out 3
  have kG4 : wJ.cell? ⟨wD.heap.size, 4, none⟩ = some (.int .i64 0) := cell_at HG_wJ.out 4
  go_wp2_with fail
  go_at_call 50
  refine Calls.mono (cH.out _ _ _ _ (Q_wJ.out.up (by omega))) ?_
  rintro e wK ⟨rfl, hb⟩
  have HS_wK : Hid (wK.heap[wB.heap.size]? = some (.cells #[.slice none 0 0, .slice s1 sn sc, .slice none 0 0, .int .i64 f, .int .i64 0] 27 (0, 0))) := stay1 HS_wJ.out hb
  have HG_wK : Hid (wK.heap[wD.heap.size]? = some (.cells #[.slice none 0 0, .slice g1 gn gc, .slice none 0 0, .int .i64 f, .int .i64 0] 27 (0, 0))) := stay1 HG_wJ.out hb
  have z_wK : wJ.heap.size ≤ wK.heap.size := hb.size
  have BL_wK : Hid (Below w.heap.size w wK) := BL_wJ.out.trans (hb.mono BL_wJ.out.size)
  have S_wK : Hid (RowMm wK wB.heap.size (.slice none 0 0) (.slice s1 sn sc) (.slice none 0 0) M) := S_wJ.out.keep (hb.mono (by omega))
  have Q_wK : Hid (RowMm wK wD.heap.size (.slice none 0 0) (.slice g1 gn gc) (.slice none 0 0) (mkMm M)) := Q_wJ.out.keep (hb.mono (by omega))
  clear kG0 kG1 kG2 kG3 kG4
  clear hb
  clear HS_wJ HG_wJ BL_wJ S_wJ Q_wJ
  go_wp2_with fail
  go_at_call 45
  refine Calls.mono (cT.out _ BL_wK.out) ?_
  rintro e wL ⟨ug, uc, rfl, hO, hb⟩
  have HS_wL : Hid (wL.heap[wB.heap.size]? = some (.cells #[.slice none 0 0, .slice s1 sn sc, .slice none 0 0, .int .i64 f, .int .i64 0] 27 (0, 0))) := stay1 HS_wK.out hb
  have HG_wL : Hid (wL.heap[wD.heap.size]? = some (.cells #[.slice none 0 0, .slice g1 gn gc, .slice none 0 0, .int .i64 f, .int .i64 0] 27 (0, 0))) := stay1 HG_wK.out hb
  have z_wL : wK.heap.size ≤ wL.heap.size := hb.size
  have BL_wL : Hid (Below w.heap.size w wL) := BL_wK.out.trans (hb.mono BL_wK.out.size)
  have S_wL : Hid (RowMm wL wB.heap.size (.slice none 0 0) (.slice s1 sn sc) (.slice none 0 0) M) := S_wK.out.keep (hb.mono (by omega))
  have Q_wL : Hid (RowMm wL wD.heap.size (.slice none 0 0) (.slice g1 gn gc) (.slice none 0 0) (mkMm M)) := Q_wK.out.keep (hb.mono (by omega))
  have U_wL : Hid (RowI wL wL.heap.size (.slice (some ⟨ug, 0, none⟩) N uc) xs) := OwnsI.row hO
  clear hO hb
  clear HS_wK HG_wK BL_wK S_wK Q_wK
  go_wp2_with fail
  go_at_call 43
  refine Calls.mono (cI.out _ _ _ U_wL.out) ?_
  rintro e wM ⟨h1, hn, hc, rfl, hO, hb⟩
  clear U_wL
  have HS_wM : Hid (wM.heap[wB.heap.size]? = some (.cells #[.slice none 0 0, .slice s1 sn sc, .slice none 0 0, .int .i64 f, .int .i64 0] 27 (0, 0))) := stay1 HS_wL.out hb
  have HG_wM : Hid (wM.heap[wD.heap.size]? = some (.cells #[.slice none 0 0, .slice g1 gn gc, .slice none 0 0, .int .i64 f, .int .i64 0] 27 (0, 0))) := stay1 HG_wL.out hb
  have z_wM : wL.heap.size ≤ wM.heap.size := hb.size
  have BL_wM : Hid (Below w.heap.size w wM) := BL_wL.out.trans (hb.mono BL_wL.out.size)
  have S_wM : Hid (RowMm wM wB.heap.size (.slice none 0 0) (.slice s1 sn sc) (.slice none 0 0) M) := S_wL.out.keep (hb.mono (by omega))
  have Q_wM : Hid (RowMm wM wD.heap.size (.slice none 0 0) (.slice g1 gn gc) (.slice none 0 0) (mkMm M)) := Q_wL.out.keep (hb.mono (by omega))
  have V_wM : Hid (OwnMm wM wL.heap.size wM.heap.size (.slice none 0 0) (.slice h1 hn hc) (.slice none 0 0) M) := hO
  clear hO hb
  clear HS_wL HG_wL BL_wL S_wL Q_wL
  have kS0 : wM.cell? ⟨wB.heap.size, 0, none⟩ = some (.slice none 0 0) := cell_at HS_wM.out 0
  have kS1 : wM.cell? ⟨wB.heap.size, 1, none⟩ = some (.slice s1 sn sc) := cell_at HS_wM.out 1
  have kS2 : wM.cell? ⟨wB.heap.size, 2, none⟩ = some (.slice none 0 0) := cell_at HS_wM.out 2
  have kS3 : wM.cell? ⟨wB.heap.size, 3, none⟩ = some (.int .i64 f) := cell_at HS_wM.out 3
  have kS4 : wM.cell? ⟨wB.heap.size, 4, none⟩ = some (.int .i64 0) := cell_at HS_wM.out 4
  have lS_wM : wB.heap.size < wM.heap.size := by omega
  go_wp2_with fail
  clear kS0 kS1 kS2 kS3 kS4
  have hbx : Below wM.heap.size wM (wM.alloc (.cells #[.slice none 0 0, .slice h1 hn hc, .slice none 0 0, .int .i64 f, .int .i64 0] 27 (0, 0))) := by go_grown
  have HS_W9 : Hid ((wM.alloc (.cells #[.slice none 0 0, .slice h1 hn hc, .slice none 0 0, .int .i64 f, .int .i64 0] 27 (0, 0))).heap[wB.heap.size]? = some (.cells #[.slice none 0 0, .slice s1 sn sc, .slice none 0 0, .int .i64 f, .int .i64 0] 27 (0, 0))) := stay1 HS_wM.out hbx
  have HG_W9 : Hid ((wM.alloc (.cells #[.slice none 0 0, .slice h1 hn hc, .slice none 0 0, .int .i64 f, .int .i64 0] 27 (0, 0))).heap[wD.heap.size]? = some (.cells #[.slice none 0 0, .slice g1 gn gc, .slice none 0 0, .int .i64 f, .int .i64 0] 27 (0, 0))) := stay1 HG_wM.out hbx
  have z_W9 : wM.heap.size ≤ (wM.alloc (.cells #[.slice none 0 0, .slice h1 hn hc, .slice none 0 0, .int .i64 f, .int .i64 0] 27 (0, 0))).heap.size := hbx.size
  have BL_W9 : Hid (Below w.heap.size w (wM.alloc (.cells #[.slice none 0 0, .slice h1 hn hc, .slice none 0 0, .int .i64 f, .int .i64 0] 27 (0, 0)))) := BL_wM.out.trans (hbx.mono BL_wM.out.size)
  have S_W9 : Hid (RowMm (wM.alloc (.cells #[.slice none 0 0, .slice h1 hn hc, .slice none 0 0, .int .i64 f, .int .i64 0] 27 (0, 0))) wB.heap.size (.slice none 0 0) (.slice s1 sn sc) (.slice none 0 0) M) := S_wM.out.keep (hbx.mono (by omega))
  have Q_W9 : Hid (RowMm (wM.alloc (.cells #[.slice none 0 0, .slice h1 hn hc, .slice none 0 0, .int .i64 f, .int .i64 0] 27 (0, 0))) wD.heap.size (.slice none 0 0) (.slice g1 gn gc) (.slice none 0 0) (mkMm M)) := Q_wM.out.keep (hbx.mono (by omega))
  have V_W9 : Hid (OwnMm (wM.alloc (.cells #[.slice none 0 0, .slice h1 hn hc, .slice none 0 0, .int .i64 f, .int .i64 0] 27 (0, 0))) wL.heap.size wM.heap.size (.slice none 0 0) (.slice h1 hn hc) (.slice none 0 0) M) := V_wM.out.move (Nat.le_refl _) (fun g _ hg => hbx.block g (by omega))
  have HHH_W9 : Hid ((wM.alloc (.cells #[.slice none 0 0, .slice h1 hn hc, .slice none 0 0, .int .i64 f, .int .i64 0] 27 (0, 0))).heap[wM.heap.size]? = some (.cells #[.slice none 0 0, .slice h1 hn hc, .slice none 0 0, .int .i64 f, .int .i64 0] 27 (0, 0))) := heap_alloc_new _ _
  have zs_W9 : (wM.alloc (.cells #[.slice none 0 0, .slice h1 hn hc, .slice none 0 0, .int .i64 f, .int .i64 0] 27 (0, 0))).heap.size = wM.heap.size + 1 := by simp
  clear hbx
  clear HS_wM HG_wM BL_wM S_wM Q_wM V_wM
  generalize (wM.alloc (.cells #[.slice none 0 0, .slice h1 hn hc, .slice none 0 0, .int .i64 f, .int .i64 0] 27 (0, 0))) = W9 at HS_W9 HG_W9 HHH_W9 BL_W9 z_W9 zs_W9 S_W9 Q_W9 V_W9 ⊢
  have kHH0 : W9.cell? ⟨wM.heap.size, 0, none⟩ = some (.slice none 0 0) := cell_at HHH_W9.out 0
  have kHH1 : W9.cell? ⟨wM.heap.size, 1, none⟩ = some (.slice h1 hn hc) := cell_at HHH_W9.out 1
  have kHH2 : W9.cell? ⟨wM.heap.size, 2, none⟩ = some (.slice none 0 0) := cell_at HHH_W9.out 2
  have kHH3 : W9.cell? ⟨wM.heap.size, 3, none⟩ = some (.int .i64 f) := cell_at HHH_W9.out 3
  have kHH4 : W9.cell? ⟨wM.heap.size, 4, none⟩ = some (.int .i64 0) := cell_at HHH_W9.out 4
  have kS0 : W9.cell? ⟨wB.heap.size, 0, none⟩ = some (.slice none 0 0) := cell_at HS_W9.out 0
  have kS1 : W9.cell? ⟨wB.heap.size, 1, none⟩ = some (.slice s1 sn sc) := cell_at HS_W9.out 1
  have kS2 : W9.cell? ⟨wB.heap.size, 2, none⟩ = some (.slice none 0 0) := cell_at HS_W9.out 2
  have kS3 : W9.cell? ⟨wB.heap.size, 3, none⟩ = some (.int .i64 f) := cell_at HS_W9.out 3
  have kS4 : W9.cell? ⟨wB.heap.size, 4, none⟩ = some (.int .i64 0) := cell_at HS_W9.out 4
  go_at_call 46
  refine Calls.mono (cE.out _ _ _ _ _ _ _ (V_W9.out.row.up (by omega)) (S_W9.out.up (by omega))) ?_
  rintro e wN ⟨rfl, hb⟩
  have HS_wN : Hid (wN.heap[wB.heap.size]? = some (.cells #[.slice none 0 0, .slice s1 sn sc, .slice none 0 0, .int .i64 f, .int .i64 0] 27 (0, 0))) := stay1 HS_W9.out hb
  have HG_wN : Hid (wN.heap[wD.heap.size]? = some (.cells #[.slice none 0 0, .slice g1 gn gc, .slice none 0 0, .int .i64 f, .int .i64 0] 27 (0, 0))) := stay1 HG_W9.out hb
  have HHH_wN : Hid (wN.heap[wM.heap.size]? = some (.cells #[.slice none 0 0, .slice h1 hn hc, .slice none 0 0, .int .i64 f, .int .i64 0] 27 (0, 0))) := stay1 HHH_W9.out hb
  have z_wN : W9.heap.size ≤ wN.heap.size := hb.size
  have BL_wN : Hid (Below w.heap.size w wN) := BL_W9.out.trans (hb.mono BL_W9.out.size)
  have S_wN : Hid (RowMm wN wB.heap.size (.slice none 0 0) (.slice s1 sn sc) (.slice none 0 0) M) := S_W9.out.keep (hb.mono (by omega))
  have Q_wN : Hid (RowMm wN wD.heap.size (.slice none 0 0) (.slice g1 gn gc) (.slice none 0 0) (mkMm M)) := Q_W9.out.keep (hb.mono (by omega))
  have V_wN : Hid (OwnMm wN wL.heap.size wM.heap.size (.slice none 0 0) (.slice h1 hn hc) (.slice none 0 0) M) := V_W9.out.move (Nat.le_refl _) (fun g _ hg => hb.block g (by omega))
  clear hb
  clear HS_W9 HG_W9 HHH_W9 BL_W9 S_W9 Q_W9 V_W9
  clear kHH0 kHH1 kHH2 kHH3 kHH4 kS0 kS1 kS2 kS3 kS4
  have kG0 : wN.cell? ⟨wD.heap.size, 0, none⟩ = some (.slice none 0 0) := cell_at HG_wN.out 0
  have kG1 : wN.cell? ⟨wD.heap.size, 1, none⟩ = some (.slice g1 gn gc) := cell_at HG_wN.out 1
  have kG2 : wN.cell? ⟨wD.heap.size, 2, none⟩ = some (.slice none 0 0) := cell_at HG_wN.out 2
  have kG3 : wN.cell? ⟨wD.heap.size, 3, none⟩ = some (.int .i64 f) := cell_at HG_wN.out 3
  have kG4 : wN.cell? ⟨wD.heap.size, 4, none⟩ = some (.int .i64 0) := cell_at HG_wN.out 4
  go_wp2_with fail
  go_at_call 50
  refine Calls.mono (cH.out _ _ _ _ (Q_wN.out.up (by omega))) ?_
  rintro e wO ⟨rfl, hb⟩
  have HS_wO : Hid (wO.heap[wB.heap.size]? = some (.cells #[.slice none 0 0, .slice s1 sn sc, .slice none 0 0, .int .i64 f, .int .i64 0] 27 (0, 0))) := stay1 HS_wN.out hb
  have HG_wO : Hid (wO.heap[wD.heap.size]? = some (.cells #[.slice none 0 0, .slice g1 gn gc, .slice none 0 0, .int .i64 f, .int .i64 0] 27 (0, 0))) := stay1 HG_wN.out hb
  have HHH_wO : Hid (wO.heap[wM.heap.size]? = some (.cells #[.slice none 0 0, .slice h1 hn hc, .slice none 0 0, .int .i64 f, .int .i64 0] 27 (0, 0))) := stay1 HHH_wN.out hb
  have z_wO : wN.heap.size ≤ wO.heap.size := hb.size
  have BL_wO : Hid (Below w.heap.size w wO) := BL_wN.out.trans (hb.mono BL_wN.out.size)
  have S_wO : Hid (RowMm wO wB.heap.size (.slice none 0 0) (.slice s1 sn sc) (.slice none 0 0) M) := S_wN.out.keep (hb.mono (by omega))
  have Q_wO : Hid (RowMm wO wD.heap.size (.slice none 0 0) (.slice g1 gn gc) (.slice none 0 0) (mkMm M)) := Q_wN.out.keep (hb.mono (by omega))
  have V_wO : Hid (OwnMm wO wL.heap.size wM.heap.size (.slice none 0 0) (.slice h1 hn hc) (.slice none 0 0) M) := V_wN.out.move (Nat.le_refl _) (fun g _ hg => hb.block g (by omega))
  clear kG0 kG1 kG2 kG3 kG4
  clear hb
  clear HS_wN HG_wN HHH_wN BL_wN S_wN Q_wN V_wN
  go_wp2
  go_ret
  exact ⟨rfl, BL_wO.out⟩

end Go.Proofs.Ytogdofdgkhkcaaa
