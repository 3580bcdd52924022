/-
  The program's keeper of a memory: given back.
-/
import Derived.Test.YtabejilnpblogaaKpBase
import Derived.Deep.RegionLaw
namespace Go.Proofs.Ytabejilnpblogaa
open Go.RowKit

set_option maxRecDepth 100000 in
set_option maxHeartbeats 3200000 in
theorem memory_any (K p : Nat) (x0 : Option Addr) (n0 c0 : Nat) (x1 : Option Addr) (n1 c1 : Nat) (x2 : Option Addr) (n2 c2 : Nat) (ads : List (Nat × Nat)) (m : Mm) (W : World) (h : KpAt K W p (.slice x0 n0 c0) (.slice x1 n1 c1) (.slice x2 n2 c2) ads m) (hl : m.cells.length ≤ 2000000) :
    Calls Try.prog 85 #[.pointer (some ⟨p, 0, none⟩)] W fun e w' => ∃ a n c, e = .returned (.agg #[.slice a n c, .slice x1 n1 c1, .slice x2 n2 c2, .int .i64 m.fuel, .int .i64 m.bad]) ∧ OwnMm w' K w'.heap.size (.slice a n c) (.slice x1 n1 c1) (.slice x2 n2 c2) m ∧ Below W.heap.size W w' := by
  obtain ⟨fu, hfu⟩ : ∃ f, Hid (m.fuel = f) := ⟨_, (rfl : m.fuel = m.fuel)⟩
  obtain ⟨bd, hbd⟩ : ∃ f, Hid (m.bad = f) := ⟨_, (rfl : m.bad = m.bad)⟩
  have HK : Hid (KpAt K W p (.slice x0 n0 c0) (.slice x1 n1 c1) (.slice x2 n2 c2) ads m) := h
  have hlt := h.lt
  have B0 : Hid (Box W (.cells #[.slice none 0 0, .slice none 0 0, .slice none 0 0, .int .i64 0, .int .i64 0] 27 (0, 0)) (W.alloc (.cells #[.slice none 0 0, .slice none 0 0, .slice none 0 0, .int .i64 0, .int .i64 0] 27 (0, 0)))) := Box.first _ _
  have hb := (B0.out.below.block p hlt).trans h.blk
  have u0 := cell_at hb 0
  have u1 := cell_at hb 1
  have u2 := cell_at hb 2
  have u3 := cell_at hb 3
  have u4 := cell_at hb 4
  simp at u0 u1 u2 u3 u4
  rw [hfu.out] at u3 ⊢
  rw [hbd.out] at u4 ⊢
  clear h hb
  go_enter Try.func85, Try.ntmps85
  go_wp2_with fail
  go_region
  have L2 : Hid (Laid W [(.cells #[.slice none 0 0, .slice none 0 0, .slice none 0 0, .int .i64 0, .int .i64 0] 27 (0, 0)), (.cells #[.slice none 0 0, .slice x1 n1 c1, .slice x2 n2 c2, .int .i64 fu, .int .i64 bd] 27 (0, 0))] ((W.alloc (.cells #[.slice none 0 0, .slice none 0 0, .slice none 0 0, .int .i64 0, .int .i64 0] 27 (0, 0))).alloc (.cells #[.slice none 0 0, .slice x1 n1 c1, .slice x2 n2 c2, .int .i64 fu, .int .i64 bd] 27 (0, 0)))) := (allocs_laid [(.cells #[.slice none 0 0, .slice none 0 0, .slice none 0 0, .int .i64 0, .int .i64 0] 27 (0, 0)), (.cells #[.slice none 0 0, .slice x1 n1 c1, .slice x2 n2 c2, .int .i64 fu, .int .i64 bd] 27 (0, 0))] W).1
  have hz2 : ((W.alloc (.cells #[.slice none 0 0, .slice none 0 0, .slice none 0 0, .int .i64 0, .int .i64 0] 27 (0, 0))).alloc (.cells #[.slice none 0 0, .slice x1 n1 c1, .slice x2 n2 c2, .int .i64 fu, .int .i64 bd] 27 (0, 0))).heap.size = W.heap.size + 2 := (allocs_laid [(.cells #[.slice none 0 0, .slice none 0 0, .slice none 0 0, .int .i64 0, .int .i64 0] 27 (0, 0)), (.cells #[.slice none 0 0, .slice x1 n1 c1, .slice x2 n2 c2, .int .i64 fu, .int .i64 bd] 27 (0, 0))] W).2
  generalize ((W.alloc (.cells #[.slice none 0 0, .slice none 0 0, .slice none 0 0, .int .i64 0, .int .i64 0] 27 (0, 0))).alloc (.cells #[.slice none 0 0, .slice x1 n1 c1, .slice x2 n2 c2, .int .i64 fu, .int .i64 bd] 27 (0, 0))) = W2 at L2 hz2 ⊢
  have K2 : Hid (KpAt K W2 p (.slice x0 n0 c0) (.slice x1 n1 c1) (.slice x2 n2 c2) ads m) := HK.out.below L2.out.low
  have hlt2 : p < W.heap.size := hlt
  have v0 : W2.cell? ⟨p, 0, none⟩ = some (.slice x0 n0 c0) := cell_at K2.out.blk 0
  have hln : n0 = m.cells.length := by
    rcases OwnsR.form HK.out.ptrs with ⟨e, e'⟩ | ⟨g', c', e, _⟩
    · have h1 := HK.out.len
      rw [e'] at h1
      injection e with _ e2 _
      rw [e2]
      exact h1
    · have h1 := HK.out.len
      injection e with _ e2 _
      rw [e2, h1]
  have HN : Hid (n0 = m.cells.length) := hln
  have hn1 : n0 ≤ 2000000 := by omega
  clear B0 u0 u1 u2 u3 u4 hln
  go_wp2
  go_loopw [28] (fun i wr => ∃ (k : Nat) (a : Option Addr) (n c : Nat), k ≤ n0 ∧ i = .int .i64 (k : Int) ∧ Hid (wr.heap[W.heap.size + 1]? = some (.cells #[.slice a n c, .slice x1 n1 c1, .slice x2 n2 c2, .int .i64 fu, .int .i64 bd] 27 (0, 0))) ∧ Hid (OwnsR ceC 2 wr W2.heap.size 82 (.slice a n c) (m.cells.take k)) ∧ Hid (Rim (W.heap.size + 1) (W.heap.size + 2) W2 wr))
    (fun i _ => n0 - (intOf i).toNat)
  case atStart => exact ⟨0, none, 0, 0, Nat.zero_le _, rfl, L2.out.at_ 1 _ rfl, ownsR_nil _ _ _ _ _, Rim.of_below ((Below.refl _ _).drew)⟩
  case round =>
    obtain ⟨k, a, n, c, hk, rfl, HBk, HOk, HRk⟩ := hrel
    have KR : Hid (KpAt K wr p (.slice x0 n0 c0) (.slice x1 n1 c1) (.slice x2 n2 c2) ads m) := HK.out.below (L2.out.low.trans ⟨HRk.out.os, HRk.out.tape, HRk.out.output, by have := HRk.out.size; omega, fun g hg => HRk.out.block g (by omega) (.inl (by omega))⟩)
    by_cases hlt : k < n0
    · have hk0 : (0 : Int) ≤ (k : Int) := by omega
      have hk1 : (k : Int) < (n0 : Int) := by omega
      have hkm : k < m.cells.length := by have := HN.out; omega
      have hka : k < ads.length := by rw [HK.out.len]; exact hkm
      obtain ⟨g0, e0⟩ : ∃ g0, x0 = some ⟨g0, 0, none⟩ := by
        rcases OwnsR.form HK.out.ptrs with ⟨_, e'⟩ | ⟨g', c', e, _⟩
        · rw [e'] at hka; simp at hka
        · injection e with e1 _ _
          exact ⟨g', e1⟩
      subst e0
      have y0 : wr.cell? ⟨g0, k, none⟩ = some (.pointer (some ⟨(ads[k]).1, (ads[k]).2, none⟩)) := by
        have := OwnsR.cell ptC_len KR.out.ptrs (by rw [HN.out, HK.out.len]) k 0 hka (by decide)
        simp only [Nat.mul_one, Nat.add_zero] at this
        exact this
      obtain ⟨⟨cb, co⟩, hco⟩ : ∃ a, Hid (ads[k] = a) := ⟨_, (rfl : ads[k] = ads[k])⟩
      obtain ⟨⟨lv, nu⟩, hce⟩ : ∃ a, Hid (m.cells[k] = a) := ⟨_, (rfl : m.cells[k] = m.cells[k])⟩
      have hcl := KR.out.cell k hka hkm
      have hfar := KR.out.far _ (List.getElem_mem hka)
      rw [hco.out] at y0 hcl hfar
      rw [hce.out] at hcl
      obtain ⟨y1, y2, -, -⟩ := hcl
      simp only at y1 y2 hfar
      have hcbW : cb < W.heap.size := by have := (HK.out.far _ (List.getElem_mem hka)).1.2.1; rw [hco.out] at this; exact this
      have y3 : wr.cell? ⟨W.heap.size + 1, 0, none⟩ = some (.slice a n c) := cell_at HBk.out 0
      have hkl : (m.cells.take k).length ≤ 10000000 := by rw [List.length_take]; omega
      have hw2 : W2.heap.size ≤ wr.heap.size := HRk.out.size
      have HOn : Hid (OwnsR ceC 2 (wr.alloc (.cells #[.bool lv, .int .i64 nu] 82 (0, 0))).drew W2.heap.size 82 (.slice a n c) (m.cells.take k)) := OwnsR.below HOk.out (by go_grown)
      have HAl : Hid ((wr.alloc (.cells #[.bool lv, .int .i64 nu] 82 (0, 0))).drew.heap[wr.heap.size]? = some (.cells #[.bool lv, .int .i64 nu] 82 (0, 0))) := heap_alloc_new _ _
      have HXp : Hid ((wr.alloc (.cells #[.bool lv, .int .i64 nu] 82 (0, 0))).drew.heap[W.heap.size + 1]? = some (.cells #[.slice a n c, .slice x1 n1 c1, .slice x2 n2 c2, .int .i64 fu, .int .i64 bd] 27 (0, 0))) := (Below.heap_alloc _ _ _ (by omega)).trans HBk.out
      have hwz : (wr.alloc (.cells #[.bool lv, .int .i64 nu] 82 (0, 0))).drew.heap.size = wr.heap.size + 1 := by show (wr.alloc (.cells #[.bool lv, .int .i64 nu] 82 (0, 0))).heap.size = _; simp
      have HWZ : Hid ((wr.alloc (.cells #[.bool lv, .int .i64 nu] 82 (0, 0))).drew.heap.size = wr.heap.size + 1) := hwz
      have hBz : W2.heap.size ≤ (wr.alloc (.cells #[.bool lv, .int .i64 nu] 82 (0, 0))).drew.heap.size := by rw [hwz]; omega
      have hpz : W.heap.size + 1 < (wr.alloc (.cells #[.bool lv, .int .i64 nu] 82 (0, 0))).drew.heap.size := by rw [hwz]; omega
      have HNv : Hid (some (W.heap.size + 1) ≠ (Value.slice a n c).ownBlock) := fun e => by have h3 := (OwnsR.lt HOk.out (W.heap.size + 1) (by unfold fpOf; rw [← e]; simp)).1; omega
      have HC1 : Hid (ceC ⟨lv, nu⟩ = [.bool lv, .int .i64 nu]) := rfl
      have y3' : (wr.alloc (.cells #[.bool lv, .int .i64 nu] 82 (0, 0))).cell? ⟨W.heap.size + 1, 0, none⟩ = some (.slice a n c) := cell_at HXp.out 0
      have HKT : Hid ((m.cells.take k).length = k) := by show _ = _; rw [List.length_take]; omega
      clear hwz hfar KR
      go_wp2_with fail
      go_region_law (refine step_appendRA CeR.len rfl _ _ 24 rfl W2.heap.size 82 _ 16 Try.underlying24 Try.infoCe rfl (by decide) HOn.out ⟨lv, nu⟩ (ceC_one [⟨lv, nu⟩] _ (by simp)) wr.heap.size (0, 0) HAl.out rfl rfl hkl (by omega) hBz ?_; intro v5 w5 hown5 hg5 hat5 hv5; rw [HKT.out] at hv5; obtain ⟨g5, cap5, rfl⟩ := hv5; have hX5 := (hg5.block (W.heap.size + 1) hpz HNv.out).trans HXp.out; have z0 := cell_at hX5 0; have fz0 := free_at hX5 0; simp at z0)
      all_goals
        have HB6 : Hid ((w5.setCell ⟨W.heap.size + 1, 0, none⟩ (.slice (some ⟨g5, 0, none⟩) (k + 1) cap5)).heap[W.heap.size + 1]? = some (.cells #[.slice (some ⟨g5, 0, none⟩) (k + 1) cap5, .slice x1 n1 c1, .slice x2 n2 c2, .int .i64 fu, .int .i64 bd] 27 (0, 0))) := heap_set hX5
        have HO6 : Hid (OwnsR ceC 2 (w5.setCell ⟨W.heap.size + 1, 0, none⟩ (.slice (some ⟨g5, 0, none⟩) (k + 1) cap5)) W2.heap.size 82 (.slice (some ⟨g5, 0, none⟩) (k + 1) cap5) (m.cells.take (k + 1))) := by
          show OwnsR _ _ _ _ _ _ _
          rw [List.take_succ_eq_append_getElem hkm, hce.out]
          exact OwnsR.same hown5 (fun g hg => kept_set (by have h3 := (OwnsR.lt hown5 g hg).1; omega))
        have HR6 : Hid (Rim (W.heap.size + 1) (W.heap.size + 2) W2 (w5.setCell ⟨W.heap.size + 1, 0, none⟩ (.slice (some ⟨g5, 0, none⟩) (k + 1) cap5))) := by
          have h4 := HWZ.out
          have h5 := hg5.size
          refine ⟨hg5.os.trans HRk.out.os, hg5.tape.trans HRk.out.tape, hg5.output.trans HRk.out.output, ?_, fun g hg hn => ?_⟩
          · simp only [World.setCell, Array.size_modify]
            omega
          · rw [kept_set (by omega)]
            have h6 : some g ≠ (Value.slice a n c).ownBlock := fun e => by have h3 := (OwnsR.lt HOk.out g (by unfold fpOf; rw [← e]; simp)).1; omega
            exact (hg5.block g (by omega) h6).trans ((Below.heap_alloc _ _ g (by omega)).trans (HRk.out.block g hg hn))
        clear hown5 hg5 hat5 hX5 z0 fz0 HOn HAl HXp HNv HBk HOk y0 y1 y2 y3 y3' HWZ HC1
        go_wp2
        go_roundw
        case rel => exact ⟨k + 1, _, _, _, by omega, by go_num, HB6, HO6, HR6⟩
        case measure => simp [intOf]; omega
    · have hkn : k = n0 := by omega
      subst hkn
      have HF : Hid (OwnsR ceC 2 wr W2.heap.size 82 (.slice a n c) m.cells) := by
        have := HOk.out
        rw [List.take_of_length_le (by have := HN.out; omega)] at this
        exact this
      have HRb : Hid (wr.heap[W.heap.size]? = some (.cells #[.slice none 0 0, .slice none 0 0, .slice none 0 0, .int .i64 0, .int .i64 0] 27 (0, 0))) := (HRk.out.block W.heap.size (by omega) (.inl (by omega))).trans (L2.out.at_ 0 _ rfl)
      have HBl : Hid (Below W.heap.size W wr ∧ W2.heap.size ≤ wr.heap.size) := ⟨L2.out.low.trans ⟨HRk.out.os, HRk.out.tape, HRk.out.output, by have := HRk.out.size; omega, fun g hg => HRk.out.block g (by omega) (.inl (by omega))⟩, HRk.out.size⟩
      have m0 := cell_at HBk.out 0
      have r0 := cell_at HRb.out 0
      have q0 := free_at HRb.out 0
      have m1 := cell_at HBk.out 1
      have r1 := cell_at HRb.out 1
      have q1 := free_at HRb.out 1
      have m2 := cell_at HBk.out 2
      have r2 := cell_at HRb.out 2
      have q2 := free_at HRb.out 2
      have m3 := cell_at HBk.out 3
      have r3 := cell_at HRb.out 3
      have q3 := free_at HRb.out 3
      have m4 := cell_at HBk.out 4
      have r4 := cell_at HRb.out 4
      have q4 := free_at HRb.out 4
      simp at m0 m1 m2 m3 m4 r0 r1 r2 r3 r4
      clear HRk HN
      go_wp2
      obtain ⟨Y, hY⟩ : ∃ Y, Y = (((((wr.setCell ⟨W.heap.size, 0, none⟩ (.slice a n c)).setCell ⟨W.heap.size, 1, none⟩ (.slice x1 n1 c1)).setCell ⟨W.heap.size, 2, none⟩ (.slice x2 n2 c2)).setCell ⟨W.heap.size, 3, none⟩ (.int .i64 fu)).setCell ⟨W.heap.size, 4, none⟩ (.int .i64 bd)) := ⟨_, rfl⟩
      rw [← hY]
      have h2 : Y.heap[W.heap.size]? = some (.cells #[.slice a n c, .slice x1 n1 c1, .slice x2 n2 c2, .int .i64 fu, .int .i64 bd] 27 (0, 0)) := by
        rw [hY]
        exact (heap_set (heap_set (heap_set (heap_set (heap_set HRb.out)))))
      have e0 := cell_at h2 0
      have e1 := cell_at h2 1
      have e2 := cell_at h2 2
      have e3 := cell_at h2 3
      have e4 := cell_at h2 4
      simp at e0 e1 e2 e3 e4
      have hs : ∀ g, g ≠ W.heap.size → Y.heap[g]? = wr.heap[g]? := fun g hg => by
        rw [hY]
        simp only [kept_set hg]
      have hz : Y.heap.size = wr.heap.size := by rw [hY]; simp
      have hYB : Below W.heap.size W Y := by
        rw [hY]
        exact (((((HBl.out.1.setCell (p := ⟨W.heap.size, 0, none⟩) (Nat.le_refl _) (.slice a n c)).setCell (p := ⟨W.heap.size, 1, none⟩) (Nat.le_refl _) (.slice x1 n1 c1)).setCell (p := ⟨W.heap.size, 2, none⟩) (Nat.le_refl _) (.slice x2 n2 c2)).setCell (p := ⟨W.heap.size, 3, none⟩) (Nat.le_refl _) (.int .i64 fu)).setCell (p := ⟨W.heap.size, 4, none⟩) (Nat.le_refl _) (.int .i64 bd))
      have hvr : ∀ g ∈ fpOf (.slice a n c), W2.heap.size ≤ g ∧ g < wr.heap.size := fun g hg => OwnsR.lt HF.out g hg
      have ha := of_nd HK.out.nd
      have hx1 : ∀ g ∈ fpOf (.slice x1 n1 c1), K ≤ g ∧ g < W.heap.size := fun g hg => HK.out.input.lt g hg
      have hx2 : ∀ g ∈ fpOf (.slice x2 n2 c2), K ≤ g ∧ g < W.heap.size := fun g hg => OwnsR.lt HK.out.out g hg
      have hlow := HK.out.low
      have hzw := HBl.out.2
      refine bodyPost_ret (by simp [results, Try.results85, go_sem, e0, e1, e2, e3, e4]; try rfl) rfl ?_
      refine ⟨a, n, c, rfl, ⟨⟨OwnsR.base (OwnsR.same HF.out (fun g hg => hs g (by have := (hvr g hg).1; omega))) (fun g hg => by have := (hvr g hg).1; omega), fun _ _ => trivial⟩, HK.out.input.same (fun g hg => (hs g (by have := hx1 g hg; omega)).trans (HBl.out.1.block g (hx1 g hg).2)), OwnsR.same HK.out.out (fun g hg => (hs g (by have := hx2 g hg; omega)).trans (HBl.out.1.block g (hx2 g hg).2)), (List.nodup_cons.mp (nd_of (p := p) (fun g hg => ⟨by have := (hvr g hg).1; omega, fun hm => by have := (hvr g hg).1; have := hx1 g hm; omega, fun hm => by have := (hvr g hg).1; have := hx2 g hm; omega⟩) ha.2.1 ha.2.2)).2, fun g hg => ?_⟩, hYB⟩
      rw [hz]
      simp only [fps_cons, List.mem_append] at hg
      rcases hg with hg | hg | hg | hg
      · have := hvr g hg; omega
      · have := hx1 g hg; omega
      · have := hx2 g hg; omega
      · simp [fps] at hg

end Go.Proofs.Ytabejilnpblogaa
