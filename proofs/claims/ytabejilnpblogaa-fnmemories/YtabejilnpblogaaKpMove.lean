/-
  The program's keeper of a memory: a cell freed, a new one, one given away. Written by mkkpmove.py.
-/
import Derived.Test.YtabejilnpblogaaKpCell
namespace Go.Proofs.Ytabejilnpblogaa
open Go.RowKit

theorem set_same {m : Mm} {j : Nat} (hj : j < m.cells.length) (h : (m.cells[j]).live = false) : setM m (j : Int) ⟨false, (m.cells[j]).num⟩ = m := by
  unfold setM
  have e : (⟨false, (m.cells[j]).num⟩ : Ce) = m.cells[j] := by
    generalize m.cells[j] = c at h ⊢
    obtain ⟨lv, nu⟩ := c
    simp only at h
    subst h
    rfl
  rw [e, Int.toNat_natCast, List.set_getElem_self]

set_option maxRecDepth 100000 in
set_option maxHeartbeats 1600000 in
theorem kpFreed_any (K p : Nat) (x0 : Option Addr) (n0 c0 : Nat) (x1 : Option Addr) (n1 c1 : Nat) (x2 : Option Addr) (n2 c2 : Nat) (ads : List (Nat × Nat)) (m : Mm) (t k : Int) (W : World) (h : KpAt K W p (.slice x0 n0 c0) (.slice x1 n1 c1) (.slice x2 n2 c2) ads m) (hb : m.bad = 0) (hl : m.cells.length ≤ 2000000) :
    KpDoes 54 #[.pointer (some ⟨p, 0, none⟩), .agg #[.int .i64 t, .int .i64 k]] W K p (freedM m t k) (.tuple #[]) := by
  have HM : Hid (KpAt K W p (.slice x0 n0 c0) (.slice x1 n1 c1) (.slice x2 n2 c2) ads m) := h
  have HBd : Hid (m.bad = 0) := hb
  have hKW : K ≤ W.heap.size := by have := h.low; have := h.lt; omega
  have cL : Hid (∀ w', Box W (.cells #[.int .i64 t, .int .i64 k] 31 (0, 0)) w' → Calls Try.prog 87 #[.pointer (some ⟨p, 0, none⟩), .agg #[.int .i64 t, .int .i64 k]] w' fun e w2 => e = .returned (ptV ads m k) ∧ Below w'.heap.size w' w2) := fun w' hw => kpLive_any K p _ _ _ _ _ _ _ _ _ ads m t k w' (h.below hw.below) hl
  unfold KpDoes
  cases hr : liveM m k with
  | none =>
    have HS : Hid (freedM m t k = m) := by
      show _ = _
      unfold freedM
      by_cases ht : t = 2
      · rw [if_pos ⟨HBd.out, ht⟩]
        cases hc : ceAt m.cells k with
        | none => rfl
        | some c =>
          have hc0 := hc
          unfold ceAt at hc
          split at hc
          · obtain ⟨hj, e⟩ := List.getElem?_eq_some_iff.mp hc
            have hk : k = ((k.toNat : Nat) : Int) := by omega
            rw [hk, live_at hj] at hr
            have hlv : (m.cells[k.toNat]).live = false := by
              cases hh : (m.cells[k.toNat]).live with
              | false => rfl
              | true => rw [if_pos hh] at hr; cases hr
            have := set_same hj hlv
            rw [← hk, e] at this
            exact this
          · cases hc
      · rw [if_neg (fun h => ht h.2)]
    rw [HS.out]
    have hpt := ptV_none (ads := ads) hr
    rw [hpt] at cL
    clear h hb hl hr HS hpt
    have B1 : Hid (Box W (.cells #[.int .i64 t, .int .i64 k] 31 (0, 0)) (W.alloc (.cells #[.int .i64 t, .int .i64 k] 31 (0, 0)))) := Box.first _ _
    go_enter Try.func54, Try.ntmps54
    go_wp2_with fail
    go_at_call 87
    refine Calls.mono (cL.out _ B1.out) ?_
    rintro e wA ⟨rfl, hA⟩
    have BA : Hid (Box W (.cells #[.int .i64 t, .int .i64 k] 31 (0, 0)) wA) := B1.out.next hA
    have HA : Hid (KpAt K wA p (.slice x0 n0 c0) (.slice x1 n1 c1) (.slice x2 n2 c2) ads m) := HM.out.below BA.out.below
    clear hA cL B1
    go_wp2
    go_returns
    exact ⟨rfl, ⟨_, _, _, _, _, _, _, _, _, _, HA.out⟩, BA.out.below.mono hKW⟩
  | some c =>
    by_cases ht : t = 2
    · subst ht
      obtain ⟨j, rfl, hj, hc, hlv⟩ := live_some hr
      have hja : j < ads.length := by rw [h.len]; exact hj
      have hget : ads.getD ((j : Nat) : Int).toNat (0, 0) = ads[j] := by rw [Int.toNat_natCast]; simp [List.getD, hja]
      obtain ⟨⟨cb, co⟩, hco⟩ : ∃ a, Hid (ads[j] = a) := ⟨_, (rfl : ads[j] = _)⟩
      have HJ : Hid ((∃ (h : j < ads.length) (h' : j < m.cells.length), ads[j] = (cb, co) ∧ m.cells[j] = c)) := ⟨hja, hj, hco.out, hc⟩
      have hpt : ptV ads m (j : Int) = .pointer (some ⟨cb, co, none⟩) := by
        rw [ptV_some hr, hget, hco.out]
      have HS : Hid (freedM m 2 (j : Int) = setM m (j : Int) ⟨false, c.num⟩) := by
        show _ = _
        unfold freedM ceAt
        rw [if_pos ⟨HBd.out, rfl⟩, if_pos (by omega), Int.toNat_natCast, List.getElem?_eq_getElem hj, hc]
      rw [HS.out]
      rw [hpt] at cL
      obtain ⟨lv, nu⟩ := c
      simp only at hlv
      subst hlv
      clear h hb hl hr HS hpt hj hc hja hget hco
      have B1 : Hid (Box W (.cells #[.int .i64 2, .int .i64 (j : Int)] 31 (0, 0)) (W.alloc (.cells #[.int .i64 2, .int .i64 (j : Int)] 31 (0, 0)))) := Box.first _ _
      go_enter Try.func54, Try.ntmps54
      go_wp2_with fail
      go_at_call 87
      refine Calls.mono (cL.out _ B1.out) ?_
      rintro e wA ⟨rfl, hA⟩
      have BA : Hid (Box W (.cells #[.int .i64 2, .int .i64 (j : Int)] 31 (0, 0)) wA) := B1.out.next hA
      have HA : Hid (KpAt K wA p (.slice x0 n0 c0) (.slice x1 n1 c1) (.slice x2 n2 c2) ads m) := HM.out.below BA.out.below
      clear hA cL B1
      have a0 : wA.cell? ⟨W.heap.size, 0, none⟩ = some (.int .i64 2) := BA.out.cell 0
      have hcl : wA.cell? ⟨cb, co, none⟩ = some (.bool true) ∧ wA.cell? ⟨cb, co + 1, none⟩ = some (.int .i64 nu) ∧ wA.frozen? ⟨cb, co, none⟩ = false ∧ wA.frozen? ⟨cb, co + 1, none⟩ = false := by
        obtain ⟨h1, h2, h3, h4⟩ := HJ.out
        have := HA.out.cell j h1 h2
        rw [h3, h4] at this
        exact this
      obtain ⟨y0, y1, fy0, fy1⟩ := hcl
      have hcbK : K ≤ cb := by
        obtain ⟨h1, h2, h3, h4⟩ := HJ.out
        have := (HA.out.far _ (List.getElem_mem h1)).1.1
        rw [h3] at this
        exact this
      have HF : Hid (KpAt K (wA.setCell ⟨cb, co, none⟩ (.bool false)) p (.slice x0 n0 c0) (.slice x1 n1 c1) (.slice x2 n2 c2) ads (setM m (j : Int) ⟨false, nu⟩)) := by
        obtain ⟨h1, h2, h3, h4⟩ := HJ.out
        have := HA.out.cellTo j h1 h2 0 ⟨false, nu⟩ (.bool false) (.inl ⟨rfl, rfl, by rw [h4]⟩)
        rw [h3] at this
        exact this
      have HBl : Hid (Below K W (wA.setCell ⟨cb, co, none⟩ (.bool false))) := (BA.out.below.mono hKW).setCell (p := ⟨cb, co, none⟩) hcbK _
      go_wp2
      go_returns
      exact ⟨rfl, ⟨_, _, _, _, _, _, _, _, _, _, HF.out⟩, HBl.out⟩
    · have HS : Hid (freedM m t k = m) := by show _ = _; unfold freedM; rw [if_neg (fun h => ht h.2)]
      rw [HS.out]
      rw [ptV_some hr] at cL
      obtain ⟨⟨cb, co⟩, hco⟩ : ∃ a, Hid (ads.getD k.toNat (0, 0) = a) := ⟨_, (rfl : ads.getD k.toNat (0, 0) = _)⟩
      rw [hco.out] at cL
      simp only at cL
      clear h hb hl hr HS hco
      have B1 : Hid (Box W (.cells #[.int .i64 t, .int .i64 k] 31 (0, 0)) (W.alloc (.cells #[.int .i64 t, .int .i64 k] 31 (0, 0)))) := Box.first _ _
      go_enter Try.func54, Try.ntmps54
      go_wp2_with fail
      go_at_call 87
      refine Calls.mono (cL.out _ B1.out) ?_
      rintro e wA ⟨rfl, hA⟩
      have BA : Hid (Box W (.cells #[.int .i64 t, .int .i64 k] 31 (0, 0)) wA) := B1.out.next hA
      have HA : Hid (KpAt K wA p (.slice x0 n0 c0) (.slice x1 n1 c1) (.slice x2 n2 c2) ads m) := HM.out.below BA.out.below
      clear hA cL B1
      have a0 : wA.cell? ⟨W.heap.size, 0, none⟩ = some (.int .i64 t) := BA.out.cell 0
      go_wp2
      go_returns
      exact ⟨rfl, ⟨_, _, _, _, _, _, _, _, _, _, HA.out⟩, BA.out.below.mono hKW⟩

set_option maxRecDepth 100000 in
set_option maxHeartbeats 3200000 in
theorem kpFresh_any (K p : Nat) (x0 : Option Addr) (n0 c0 : Nat) (x1 : Option Addr) (n1 c1 : Nat) (x2 : Option Addr) (n2 c2 : Nat) (ads : List (Nat × Nat)) (m : Mm) (k : Int) (W : World) (h : KpAt K W p (.slice x0 n0 c0) (.slice x1 n1 c1) (.slice x2 n2 c2) ads m) (hl : m.cells.length ≤ 2000000) :
    Calls Try.prog 46 #[.pointer (some ⟨p, 0, none⟩), .int .i64 k] W fun e w' => (e = .returned (.agg #[.int .i64 2, .int .i64 (m.cells.length : Int)]) ∧ (∃ y0 m0 d0 ads', KpAt K w' p (.slice y0 m0 d0) (.slice x1 n1 c1) (.slice x2 n2 c2) ads' (pushM m k) ∧ ∀ g, g ∈ fpOf (.slice y0 m0 d0) ∨ (∃ a ∈ ads', g = a.1) → (g ∈ fpOf (.slice x0 n0 c0) ∨ ∃ a ∈ ads, g = a.1) ∨ W.heap.size ≤ g) ∧ Below K W w') ∧ (∀ g, g < W.heap.size → g ≠ p → g ∉ fpOf (.slice x0 n0 c0) → w'.heap[g]? = W.heap[g]?) ∧ W.heap.size ≤ w'.heap.size := by
  have HM : Hid (KpAt K W p (.slice x0 n0 c0) (.slice x1 n1 c1) (.slice x2 n2 c2) ads m) := h
  have hlt := h.lt
  have hKW : K ≤ W.heap.size := by have := h.low; omega
  obtain ⟨N, HN⟩ : ∃ N, Hid (m.cells.length = N) := ⟨_, (rfl : m.cells.length = m.cells.length)⟩
  have hal : ads.length = N := by rw [h.len, HN.out]
  rw [HN.out] at hl ⊢
  have L1 : Hid (Laid W [(.cells #[.int .i64 0, .int .i64 0] 31 (0, 0)), (.cells #[.bool true, .int .i64 k] 82 (0, 0))] ((W.alloc (.cells #[.int .i64 0, .int .i64 0] 31 (0, 0))).alloc (.cells #[.bool true, .int .i64 k] 82 (0, 0)))) := (allocs_laid [(.cells #[.int .i64 0, .int .i64 0] 31 (0, 0)), (.cells #[.bool true, .int .i64 k] 82 (0, 0))] W).1
  have hz1 : ((W.alloc (.cells #[.int .i64 0, .int .i64 0] 31 (0, 0))).alloc (.cells #[.bool true, .int .i64 k] 82 (0, 0))).heap.size = W.heap.size + 2 := (allocs_laid [(.cells #[.int .i64 0, .int .i64 0] 31 (0, 0)), (.cells #[.bool true, .int .i64 k] 82 (0, 0))] W).2
  have HZ1 : Hid (((W.alloc (.cells #[.int .i64 0, .int .i64 0] 31 (0, 0))).alloc (.cells #[.bool true, .int .i64 k] 82 (0, 0))).heap.size = W.heap.size + 2) := hz1
  have K1 : Hid (KpAt K ((W.alloc (.cells #[.int .i64 0, .int .i64 0] 31 (0, 0))).alloc (.cells #[.bool true, .int .i64 k] 82 (0, 0))) p (.slice x0 n0 c0) (.slice x1 n1 c1) (.slice x2 n2 c2) ads m) := h.below L1.out.low
  have hpb := K1.out.blk
  have u0 : (W.alloc (.cells #[.int .i64 0, .int .i64 0] 31 (0, 0))).cell? ⟨p, 0, none⟩ = some (.slice x0 n0 c0) := cell_at (((Below.heap_alloc W (.cells #[.int .i64 0, .int .i64 0] 31 (0, 0)) p hlt)).trans h.blk) 0
  have HAL : Hid (ads.length = N) := hal
  clear h hz1 hpb hal
  go_enter Try.func46, Try.ntmps46
  go_wp2_with (at_builtin; go_must (refine appendRA ptC_len rfl _ _ 95 rfl K 99 _ 8 Try.underlying95 Try.infoPt rfl (by decide) K1.out.ptrs (W.heap.size + 1, 0) (ptC_one [(W.heap.size + 1, 0)] _ (by simp)) rfl (by first | rfl | (simp [Act.eval]; done)) (by rw [HAL.out]; omega) (by omega) (by simp; omega) ?_); intro v2' w2 ho hg hat hv; rw [HAL.out] at hv; obtain ⟨g', cap', rfl⟩ := hv; have G2 : Hid (OwnsR ptC 1 w2 K 99 (.slice (some ⟨g', 0, none⟩) (N + 1) cap') (ads ++ [(W.heap.size + 1, 0)]) ∧ (∀ g, g < ((W.alloc (.cells #[.int .i64 0, .int .i64 0] 31 (0, 0))).alloc (.cells #[.bool true, .int .i64 k] 82 (0, 0))).heap.size → g ∉ fpOf (.slice x0 n0 c0) → w2.heap[g]? = ((W.alloc (.cells #[.int .i64 0, .int .i64 0] 31 (0, 0))).alloc (.cells #[.bool true, .int .i64 k] 82 (0, 0))).heap[g]?) ∧ (∀ g ∈ fpOf (.slice (some ⟨g', 0, none⟩) (N + 1) cap'), g ∈ fpOf (.slice x0 n0 c0) ∨ ((W.alloc (.cells #[.int .i64 0, .int .i64 0] 31 (0, 0))).alloc (.cells #[.bool true, .int .i64 k] 82 (0, 0))).heap.size ≤ g) ∧ ((W.alloc (.cells #[.int .i64 0, .int .i64 0] 31 (0, 0))).alloc (.cells #[.bool true, .int .i64 k] 82 (0, 0))).heap.size ≤ w2.heap.size) := ⟨ho, fun g hl hn => hg.block g hl (fun e => hn (by unfold fpOf; rw [← e]; simp)), fp_grown hat, hg.size⟩; have HB2 : Hid (Below K W w2) := (L1.out.low.mono hKW).grown hg (by simp; omega) (fun x hx => (OwnsR.lt K1.out.ptrs x (by unfold fpOf; rw [hx]; simp)).1); have hpb := (G2.out.2.1 p (by rw [HZ1.out]; omega) (fun hm => by have := (of_nd HM.out.nd).1 p hm; exact this.1 rfl)).trans K1.out.blk; have hrb := (G2.out.2.1 W.heap.size (by rw [HZ1.out]; omega) (fun hm => by have := (OwnsR.lt HM.out.ptrs _ hm).2; omega)).trans (L1.out.at_ 0 _ rfl); have HRB : Hid _ := hrb; have a0 := cell_at hpb 0; have b0 := free_at hpb 0; have r0 := cell_at hrb 0; have r1 := cell_at hrb 1; have s0 := free_at hrb 0; have s1 := free_at hrb 1; clear ho hg hat hpb hrb; simp at a0 r0 r1)
  have hne : ∀ g, g ∈ fpOf (.slice (some ⟨g', 0, none⟩) (N + 1) cap') → g < W.heap.size ∨ W.heap.size + 2 ≤ g := fun g hm => by
    rcases G2.out.2.2.1 g hm with h1 | h1
    · exact .inl (OwnsR.lt HM.out.ptrs g h1).2
    · rw [HZ1.out] at h1; exact .inr h1
  have HR : KpAt K (w2.setCell ⟨p, 0, none⟩ (.slice (some ⟨g', 0, none⟩) (N + 1) cap')) p (.slice (some ⟨g', 0, none⟩) (N + 1) cap') (.slice x1 n1 c1) (.slice x2 n2 c2) (ads ++ [(W.heap.size + 1, 0)]) (pushM m k) := by
    refine HM.out.grow G2.out.1 (fun g hg hn => (G2.out.2.1 g (by rw [HZ1.out]; omega) hn).trans (L1.out.low.block g hg)) (by omega) ?_ (fun g hm => (G2.out.2.2.1 g hm).elim .inl (fun h1 => .inr (by rw [HZ1.out] at h1; omega))) (fun hm => by have := hne _ hm; omega)
    exact (G2.out.2.1 (W.heap.size + 1) (by rw [HZ1.out]; omega) (fun hm => by have := (OwnsR.lt HM.out.ptrs _ hm).2; omega)).trans (L1.out.at_ 1 _ rfl)
  obtain ⟨Z, hZ⟩ : ∃ Z, Z = ((w2.setCell ⟨p, 0, none⟩ (.slice (some ⟨g', 0, none⟩) (N + 1) cap')).setCell ⟨W.heap.size, 0, none⟩ (.int .i64 2)).setCell ⟨W.heap.size, 1, none⟩ (.int .i64 (N : Int)) := ⟨_, rfl⟩
  rw [← hZ]
  have h2 : Z.heap[W.heap.size]? = some (.cells #[.int .i64 2, .int .i64 (N : Int)] 31 (0, 0)) := by
    rw [hZ]
    exact heap_set (heap_set ((kept_set (by omega)).trans HRB.out))
  have e0 := cell_at h2 0
  have e1 := cell_at h2 1
  simp at e0 e1
  have HZ : KpAt K Z p (.slice (some ⟨g', 0, none⟩) (N + 1) cap') (.slice x1 n1 c1) (.slice x2 n2 c2) (ads ++ [(W.heap.size + 1, 0)]) (pushM m k) := by
    refine HR.same (fun g hg => ?_) (by rw [hZ]; simp)
    rw [hZ, kept_set, kept_set]
    all_goals
      rcases hg with rfl | hg | hg | hg | ⟨a, ha, rfl⟩
      · omega
      · have := hne g hg; omega
      · have := (HM.out.input.lt g hg).2; omega
      · have := (OwnsR.lt HM.out.out g hg).2; omega
      · rcases List.mem_append.mp ha with ha | ha
        · have := (HM.out.far a ha).1.2.1; omega
        · obtain rfl := List.mem_singleton.mp ha
          simp
  have hZB : Below K W Z := by
    rw [hZ]
    exact ((HB2.out.setCell (p := ⟨p, 0, none⟩) HM.out.low _).setCell (p := ⟨W.heap.size, 0, none⟩) hKW _).setCell (p := ⟨W.heap.size, 1, none⟩) hKW _
  have hZ1 : ∀ g, g < W.heap.size → g ≠ p → g ∉ fpOf (.slice x0 n0 c0) → Z.heap[g]? = W.heap[g]? := fun g hl hp hn => by
    rw [hZ, kept_set (by omega), kept_set (by omega), kept_set hp]
    exact (G2.out.2.1 g (by rw [HZ1.out]; omega) hn).trans (L1.out.low.block g hl)
  have hZ2 : W.heap.size ≤ Z.heap.size := by
    have h3 := G2.out.2.2.2
    rw [HZ1.out] at h3
    rw [hZ]
    simp
    omega
  refine bodyPost_ret (by simp [results, Try.results46, go_sem, e0, e1]; try rfl) rfl ?_
  refine ⟨⟨rfl, ⟨_, _, _, _, HZ, fun g hg => ?_⟩, hZB⟩, hZ1, hZ2⟩
  rcases hg with hg | ⟨a, ha, rfl⟩
  · rcases G2.out.2.2.1 g hg with h1 | h1
    · exact .inl (.inl h1)
    · rw [HZ1.out] at h1; exact .inr (by omega)
  · rcases List.mem_append.mp ha with ha | ha
    · exact .inl (.inr ⟨a, ha, rfl⟩)
    · obtain rfl := List.mem_singleton.mp ha
      exact .inr (by show W.heap.size ≤ W.heap.size + 1; omega)

set_option maxRecDepth 100000 in
set_option maxHeartbeats 3200000 in
theorem kpMoved_any (K p : Nat) (x0 : Option Addr) (n0 c0 : Nat) (x1 : Option Addr) (n1 c1 : Nat) (x2 : Option Addr) (n2 c2 : Nat) (ads : List (Nat × Nat)) (m : Mm) (t k : Int) (W : World) (h : KpAt K W p (.slice x0 n0 c0) (.slice x1 n1 c1) (.slice x2 n2 c2) ads m) (hb : m.bad = 0) (hl : m.cells.length ≤ 2000000) :
    KpDoes 50 #[.pointer (some ⟨p, 0, none⟩), .agg #[.int .i64 t, .int .i64 k]] W K p (movedM m t k).1 (.agg #[.int .i64 (movedM m t k).2.1, .int .i64 (movedM m t k).2.2]) := by
  have HM : Hid (KpAt K W p (.slice x0 n0 c0) (.slice x1 n1 c1) (.slice x2 n2 c2) ads m) := h
  have HBd : Hid (m.bad = 0) := hb
  have hlt := h.lt
  have hKW : K ≤ W.heap.size := by have := h.low; omega
  have HX : Hid (W.heap.size + 1 ∉ fpOf (.slice x0 n0 c0)) := fun hm => by have := (OwnsR.lt h.ptrs _ hm).2; omega
  have cL : Hid (∀ w', Box W (.cells #[.int .i64 t, .int .i64 k] 31 (0, 0)) w' → Calls Try.prog 87 #[.pointer (some ⟨p, 0, none⟩), .agg #[.int .i64 t, .int .i64 k]] w' fun e w2 => e = .returned (ptV ads m k) ∧ Below w'.heap.size w' w2) := fun w' hw => kpLive_any K p _ _ _ _ _ _ _ _ _ ads m t k w' (h.below hw.below) hl
  unfold KpDoes
  by_cases ht : t = 2
  · subst ht
    have L1 : Hid (Laid W [(.cells #[.int .i64 2, .int .i64 k] 31 (0, 0)), (.cells #[.int .i64 0, .int .i64 0] 31 (0, 0))] ((W.alloc (.cells #[.int .i64 2, .int .i64 k] 31 (0, 0))).alloc (.cells #[.int .i64 0, .int .i64 0] 31 (0, 0)))) := (allocs_laid [(.cells #[.int .i64 2, .int .i64 k] 31 (0, 0)), (.cells #[.int .i64 0, .int .i64 0] 31 (0, 0))] W).1
    have B1 : Hid (Box W (.cells #[.int .i64 2, .int .i64 k] 31 (0, 0)) ((W.alloc (.cells #[.int .i64 2, .int .i64 k] 31 (0, 0))).alloc (.cells #[.int .i64 0, .int .i64 0] 31 (0, 0)))) := (Box.first _ _).alloc _
    cases hr : liveM m k with
    | none =>
      have HS : Hid (movedM m 2 k = ({ m with bad := 5 }, 0, 0)) := by show _ = _; unfold movedM; rw [if_pos HBd.out, if_pos rfl, hr]
      rw [HS.out]
      rw [ptV_none hr] at cL
      clear h hb hl hr HS
      go_enter Try.func50, Try.ntmps50
      go_wp2_with fail
      go_at_call 87
      refine Calls.mono (cL.out _ B1.out) ?_
      rintro e wA ⟨rfl, hA⟩
      have LA : Hid (Laid W [(.cells #[.int .i64 2, .int .i64 k] 31 (0, 0)), (.cells #[.int .i64 0, .int .i64 0] 31 (0, 0))] wA) := L1.out.next hA
      have HA : Hid (KpAt K wA p (.slice x0 n0 c0) (.slice x1 n1 c1) (.slice x2 n2 c2) ads m) := HM.out.below LA.out.low
      clear hA cL B1 L1
      have a4 := cell_at HA.out.blk 4
      have f4 := free_at HA.out.blk 4
      have r0 := cell_at (LA.out.at_ 1 _ rfl) 0
      have r1 := cell_at (LA.out.at_ 1 _ rfl) 1
      have q0 := free_at (LA.out.at_ 1 _ rfl) 0
      have q1 := free_at (LA.out.at_ 1 _ rfl) 1
      simp at a4 r0 r1
      have hne : ¬ W.heap.size + 1 = p := by omega
      go_wp2
      obtain ⟨Z, hZ⟩ : ∃ Z, Z = (((wA.setCell ⟨p, 4, none⟩ (.int .i64 5)).setCell ⟨W.heap.size + 1, 0, none⟩ (.int .i64 0)).setCell ⟨W.heap.size + 1, 1, none⟩ (.int .i64 0)) := ⟨_, rfl⟩
      rw [← hZ]
      have h2 : Z.heap[W.heap.size + 1]? = some (.cells #[.int .i64 0, .int .i64 0] 31 (0, 0)) := by
        rw [hZ]
        exact heap_set (heap_set ((kept_set (by omega)).trans (LA.out.at_ 1 _ rfl)))
      have e0 := cell_at h2 0
      have e1 := cell_at h2 1
      simp at e0 e1
      have HZ : KpAt K Z p (.slice x0 n0 c0) (.slice x1 n1 c1) (.slice x2 n2 c2) ads { m with bad := 5 } := by
        refine (HA.out.badTo 5).same (fun g hg => ?_) (by rw [hZ]; simp)
        have h3 := HM.out.blocks g hg
        rw [hZ, kept_set (by omega), kept_set (by omega)]
      have hZB : Below K W Z := by
        rw [hZ]
        exact ((((LA.out.low.mono hKW).trans (HA.out.set_below 4 _)).setCell (p := ⟨W.heap.size + 1, 0, none⟩) (by show K ≤ _; simp; omega) _).setCell (p := ⟨W.heap.size + 1, 1, none⟩) (by show K ≤ _; simp; omega) _)
      refine bodyPost_ret (by simp [results, Try.results50, go_sem, e0, e1]; try rfl) rfl ?_
      exact ⟨rfl, ⟨_, _, _, _, _, _, _, _, _, _, HZ⟩, hZB⟩
    | some c =>
      obtain ⟨j, rfl, hj, hc, hlv⟩ := live_some hr
      have hja : j < ads.length := by rw [h.len]; exact hj
      have hget : ads.getD ((j : Nat) : Int).toNat (0, 0) = ads[j] := by rw [Int.toNat_natCast]; simp [List.getD, hja]
      obtain ⟨⟨cb, co⟩, hco⟩ : ∃ a, Hid (ads[j] = a) := ⟨_, (rfl : ads[j] = _)⟩
      have HJ : Hid ((∃ (h : j < ads.length) (h' : j < m.cells.length), ads[j] = (cb, co) ∧ m.cells[j] = c)) := ⟨hja, hj, hco.out, hc⟩
      have hpt : ptV ads m (j : Int) = .pointer (some ⟨cb, co, none⟩) := by
        rw [ptV_some hr, hget, hco.out]
      have HS : Hid (movedM m 2 (j : Int) = (pushM (setM m (j : Int) ⟨false, c.num⟩) c.num, 2, (m.cells.length : Int))) := by show _ = _; unfold movedM; rw [if_pos HBd.out, if_pos rfl, hr]
      rw [HS.out]
      rw [hpt] at cL
      obtain ⟨lv, nu⟩ := c
      simp only at hlv
      subst hlv
      have HFr : Hid (∀ Z, KpAt K Z p (.slice x0 n0 c0) (.slice x1 n1 c1) (.slice x2 n2 c2) ads (setM m (j : Int) ⟨false, nu⟩) → Calls Try.prog 46 #[.pointer (some ⟨p, 0, none⟩), .int .i64 nu] Z fun e w' => (e = .returned (.agg #[.int .i64 2, .int .i64 (m.cells.length : Int)]) ∧ (∃ y0 m0 d0 ads', KpAt K w' p (.slice y0 m0 d0) (.slice x1 n1 c1) (.slice x2 n2 c2) ads' (pushM (setM m (j : Int) ⟨false, nu⟩) nu) ∧ ∀ g, g ∈ fpOf (.slice y0 m0 d0) ∨ (∃ a ∈ ads', g = a.1) → (g ∈ fpOf (.slice x0 n0 c0) ∨ ∃ a ∈ ads, g = a.1) ∨ Z.heap.size ≤ g) ∧ Below K Z w') ∧ (∀ g, g < Z.heap.size → g ≠ p → g ∉ fpOf (.slice x0 n0 c0) → w'.heap[g]? = Z.heap[g]?) ∧ Z.heap.size ≤ w'.heap.size) := fun Z hZ => by
        have h1 := kpFresh_any K p _ _ _ _ _ _ _ _ _ ads (setM m (j : Int) ⟨false, nu⟩) nu Z hZ (by unfold setM; simp only [List.length_set]; exact hl)
        have e2 : (setM m (j : Int) ⟨false, nu⟩).cells.length = m.cells.length := by unfold setM; simp
        rw [e2] at h1
        exact h1
      obtain ⟨N, HN⟩ : ∃ N, Hid (m.cells.length = N) := ⟨_, (rfl : m.cells.length = m.cells.length)⟩
      rw [HN.out] at HFr hl ⊢
      clear h hb hr HS hpt hj hc hja hget hco
      go_enter Try.func50, Try.ntmps50
      go_wp2_with fail
      go_at_call 87
      refine Calls.mono (cL.out _ B1.out) ?_
      rintro e wA ⟨rfl, hA⟩
      have LA : Hid (Laid W [(.cells #[.int .i64 2, .int .i64 (j : Int)] 31 (0, 0)), (.cells #[.int .i64 0, .int .i64 0] 31 (0, 0))] wA) := L1.out.next hA
      have HA : Hid (KpAt K wA p (.slice x0 n0 c0) (.slice x1 n1 c1) (.slice x2 n2 c2) ads m) := HM.out.below LA.out.low
      clear hA cL B1 L1
      have hcl : wA.cell? ⟨cb, co, none⟩ = some (.bool true) ∧ wA.cell? ⟨cb, co + 1, none⟩ = some (.int .i64 nu) ∧ wA.frozen? ⟨cb, co, none⟩ = false ∧ wA.frozen? ⟨cb, co + 1, none⟩ = false := by
        obtain ⟨h1, h2, h3, h4⟩ := HJ.out
        have := HA.out.cell j h1 h2
        rw [h3, h4] at this
        exact this
      obtain ⟨y0, y1, fy0, fy1⟩ := hcl
      have hcbK : K ≤ cb := by
        obtain ⟨h1, h2, h3, h4⟩ := HJ.out
        have := (HA.out.far _ (List.getElem_mem h1)).1.1
        rw [h3] at this
        exact this
      have HF : Hid (KpAt K (wA.setCell ⟨cb, co, none⟩ (.bool false)) p (.slice x0 n0 c0) (.slice x1 n1 c1) (.slice x2 n2 c2) ads (setM m (j : Int) ⟨false, nu⟩)) := by
        obtain ⟨h1, h2, h3, h4⟩ := HJ.out
        have := HA.out.cellTo j h1 h2 0 ⟨false, nu⟩ (.bool false) (.inl ⟨rfl, rfl, by rw [h4]⟩)
        rw [h3] at this
        exact this
      have hcbW : cb < W.heap.size := by
        obtain ⟨h1, h2, h3, h4⟩ := HJ.out
        have := (HM.out.far _ (List.getElem_mem h1)).1.2.1
        rw [h3] at this
        exact this
      have RF : Hid ((wA.setCell ⟨cb, co, none⟩ (.bool false)).heap[W.heap.size + 1]? = some (.cells #[.int .i64 0, .int .i64 0] 31 (0, 0)) ∧ W.heap.size + 1 < (wA.setCell ⟨cb, co, none⟩ (.bool false)).heap.size ∧ Below K W (wA.setCell ⟨cb, co, none⟩ (.bool false))) := ⟨(kept_set (by omega)).trans (LA.out.at_ 1 _ rfl), by have := LA.out.size; simp at this ⊢; omega, (LA.out.low.mono hKW).setCell (p := ⟨cb, co, none⟩) hcbK _⟩
      go_wp2_with fail
      clear y0 y1 fy0 fy1 HA LA HJ
      generalize wA.setCell ⟨cb, co, none⟩ (.bool false) = WX at HF RF ⊢
      go_at_call 46
      refine Calls.mono (HFr.out _ HF.out) ?_
      rintro e wB ⟨⟨rfl, hex, hbB⟩, hold, hsz⟩
      obtain ⟨z0, m0, d0, ads', hM, hnew⟩ := hex
      have HNw : Hid (∀ g, g ∈ fpOf (.slice z0 m0 d0) ∨ (∃ a ∈ ads', g = a.1) → g < W.heap.size ∨ W.heap.size + 1 < g) := fun g hg => by
        rcases hnew g hg with (h1 | ⟨a, ha, h1⟩) | h1
        · exact .inl (OwnsR.lt HM.out.ptrs g h1).2
        · exact .inl (by rw [h1]; exact (HM.out.far a ha).1.2.1)
        · exact .inr (Nat.lt_of_lt_of_le RF.out.2.1 h1)
      have RG : Hid (wB.heap[W.heap.size + 1]? = some (.cells #[.int .i64 0, .int .i64 0] 31 (0, 0)) ∧ W.heap.size + 1 < wB.heap.size) := ⟨(hold _ RF.out.2.1 (by omega) HX.out).trans RF.out.1, Nat.lt_of_lt_of_le RF.out.2.1 hsz⟩
      have HM2 : Hid (KpAt K wB p (.slice z0 m0 d0) (.slice x1 n1 c1) (.slice x2 n2 c2) ads' (pushM (setM m (j : Int) ⟨false, nu⟩) nu)) := hM
      have HB3 : Hid (Below K W wB) := RF.out.2.2.trans hbB
      have r0 := cell_at RG.out.1 0
      have r1 := cell_at RG.out.1 1
      have q0 := free_at RG.out.1 0
      have q1 := free_at RG.out.1 1
      simp at r0 r1
      clear HFr hM hbB hold hsz HF RF hnew
      go_wp2
      obtain ⟨Z, hZ⟩ : ∃ Z, Z = ((wB.setCell ⟨W.heap.size + 1, 0, none⟩ (.int .i64 2)).setCell ⟨W.heap.size + 1, 1, none⟩ (.int .i64 (N : Int))) := ⟨_, rfl⟩
      rw [← hZ]
      have h2 : Z.heap[W.heap.size + 1]? = some (.cells #[.int .i64 2, .int .i64 (N : Int)] 31 (0, 0)) := by
        rw [hZ]
        exact heap_set (heap_set RG.out.1)
      have e0 := cell_at h2 0
      have e1 := cell_at h2 1
      simp at e0 e1
      have HZ : KpAt K Z p (.slice z0 m0 d0) (.slice x1 n1 c1) (.slice x2 n2 c2) ads' (pushM (setM m (j : Int) ⟨false, nu⟩) nu) := by
        refine HM2.out.same (fun g hg => ?_) (by rw [hZ]; simp)
        have h3 : g ≠ W.heap.size + 1 := by
          rcases hg with rfl | hg | hg | hg | hg
          · omega
          · have := HNw.out g (.inl hg); omega
          · have := (HM.out.input.lt g hg).2; omega
          · have := (OwnsR.lt HM.out.out g hg).2; omega
          · have := HNw.out g (.inr hg); omega
        rw [hZ, kept_set h3, kept_set h3]
      have hZB : Below K W Z := by
        rw [hZ]
        exact (HB3.out.setCell (p := ⟨W.heap.size + 1, 0, none⟩) (by show K ≤ _; simp; omega) _).setCell (p := ⟨W.heap.size + 1, 1, none⟩) (by show K ≤ _; simp; omega) _
      refine bodyPost_ret (by simp [results, Try.results50, go_sem, e0, e1]; try rfl) rfl ?_
      exact ⟨rfl, ⟨_, _, _, _, _, _, _, _, _, _, HZ⟩, hZB⟩
  · have HS : Hid (movedM m t k = (m, t, k)) := by show _ = _; unfold movedM; rw [if_pos HBd.out, if_neg ht]
    rw [HS.out]
    clear HS cL h hb hl
    go_enter Try.func50, Try.ntmps50
    go_wp2
    go_returns
    exact ⟨rfl, ⟨_, _, _, _, _, _, _, _, _, _, HM.out.below (by go_grown)⟩, by go_grown⟩

end Go.Proofs.Ytabejilnpblogaa
