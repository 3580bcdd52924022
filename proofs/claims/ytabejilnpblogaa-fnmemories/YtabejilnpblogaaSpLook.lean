/-
  The model's memory: a cell looked at, written, given away. Written by mksplook.py.
-/
import Derived.Test.YtabejilnpblogaaSpLive
import Derived.Deep.RegionHeld3
import Derived.Deep.QuietTactic
namespace Go.Proofs.Ytabejilnpblogaa
open Go.RowKit

theorem SpSee.of {K p : Nat} {W W' : World} {v0 v1 v2 : Value} {m : Mm} {t k : Int} {T : TypeId} (h : MmAt K W p v0 v1 v2 m) (hb : Box W (.cells #[.int .i64 t, .int .i64 k] T (0, 0)) W') :
    (W'.cell? ⟨p, 0, none⟩ = some v0 ∧ W'.cell? ⟨p, 1, none⟩ = some v1 ∧ W'.cell? ⟨p, 2, none⟩ = some v2 ∧ W'.cell? ⟨p, 3, none⟩ = some (.int .i64 m.fuel) ∧ W'.cell? ⟨p, 4, none⟩ = some (.int .i64 m.bad)) ∧ W'.cell? ⟨W.heap.size, 0, none⟩ = some (.int .i64 t) ∧ W'.cell? ⟨W.heap.size, 1, none⟩ = some (.int .i64 k) :=
  have hp := (hb.below.block p h.lt).trans h.blk
  ⟨⟨cell_at hp 0, cell_at hp 1, cell_at hp 2, cell_at hp 3, cell_at hp 4⟩, hb.cell 0, hb.cell 1⟩
theorem lead_some {m : Mm} {t k : Int} {c : Ce} (h : leadM m t k = some c) : ∃ j : Nat, k = (j : Int) ∧ ∃ hj : j < m.cells.length, m.cells[j] = c ∧ c.live = true := by
  unfold leadM at h
  split at h
  · unfold liveM at h
    split at h
    · rename_i c' hc
      split at h
      · rename_i hl
        cases h
        unfold ceAt at hc
        split at hc
        · rename_i h0
          obtain ⟨hj, e⟩ := List.getElem?_eq_some_iff.mp hc
          exact ⟨k.toNat, by omega, hj, e, hl⟩
        · cases hc
      · cases h
    · cases h
  · cases h
theorem MmAt.aside {K p : Nat} {W : World} {v0 v1 v2 : Value} {m : Mm} (h : MmAt K W p v0 v1 v2 m) (b j : Nat) (u : Value) (hp : b ≠ p) (h0 : b ∉ fpOf v0) (h1 : b ∉ fpOf v1) (h2 : b ∉ fpOf v2) : MmAt K (W.setCell ⟨b, j, none⟩ u) p v0 v1 v2 m :=
  ⟨(kept_set (Ne.symm hp)).trans h.blk, OwnsR.same h.cells (fun _ hg => kept_set (fun e => h0 (e ▸ hg))), OwnsR.same h.input (fun _ hg => kept_set (fun e => h1 (e ▸ hg))), OwnsR.same h.out (fun _ hg => kept_set (fun e => h2 (e ▸ hg))), h.nd, h.low⟩

set_option maxRecDepth 100000 in
set_option maxHeartbeats 1600000 in
theorem l09Looked_any (K p : Nat) (x0 : Option Addr) (n0 c0 : Nat) (x1 : Option Addr) (n1 c1 : Nat) (x2 : Option Addr) (n2 c2 : Nat) (m : Mm) (t k : Int) (W : World) (h : MmAt K W p (.slice x0 n0 c0) (.slice x1 n1 c1) (.slice x2 n2 c2) m) (hl : szMm m ≤ 2000000) :
    SpDoes 61 #[.pointer (some ⟨p, 0, none⟩), .agg #[.int .i64 t, .int .i64 k]] W K p (lookedM m t k).1 (.int .i64 (lookedM m t k).2) := by
  have HM : Hid (MmAt K W p (.slice x0 n0 c0) (.slice x1 n1 c1) (.slice x2 n2 c2) m) := h
  have u4 : W.cell? ⟨p, 4, none⟩ = some (.int .i64 m.bad) := cell_at h.blk 4
  have hlt := h.lt
  have hKW : K ≤ W.heap.size := by have := h.low; omega
  have hol : m.cells.length ≤ 2000000 := by unfold szMm at hl; rw [szRowCe_len] at hl; omega
  obtain ⟨fu, hfu⟩ : ∃ f, Hid (m.fuel = f) := ⟨_, (rfl : m.fuel = m.fuel)⟩
  obtain ⟨bd, hbd⟩ : ∃ f, Hid (m.bad = f) := ⟨_, (rfl : m.bad = m.bad)⟩
  have HSee : Hid (∀ w', Box W (.cells #[.int .i64 t, .int .i64 k] 31 (0, 0)) w' → (w'.cell? ⟨p, 0, none⟩ = some (.slice x0 n0 c0) ∧ w'.cell? ⟨p, 1, none⟩ = some (.slice x1 n1 c1) ∧ w'.cell? ⟨p, 2, none⟩ = some (.slice x2 n2 c2) ∧ w'.cell? ⟨p, 3, none⟩ = some (.int .i64 fu) ∧ w'.cell? ⟨p, 4, none⟩ = some (.int .i64 bd)) ∧ w'.cell? ⟨W.heap.size, 0, none⟩ = some (.int .i64 t) ∧ w'.cell? ⟨W.heap.size, 1, none⟩ = some (.int .i64 k)) := fun w' hw => by
    have := SpSee.of h hw
    rw [hfu.out, hbd.out] at this
    exact this
  have cL : Hid (∀ w', Box W (.cells #[.int .i64 t, .int .i64 k] 31 (0, 0)) w' → Calls Try.prog 89 #[.agg #[.slice x0 n0 c0, .slice x1 n1 c1, .slice x2 n2 c2, .int .i64 fu, .int .i64 bd], .agg #[.int .i64 t, .int .i64 k]] w' fun e w2 => e = .returned (.bool (leadM m t k).isSome) ∧ Below w'.heap.size w' w2) := fun w' hw =>
    l09Live_any w'.heap.size m x0 n0 c0 _ _ fu bd t k w' (Nat.le_refl _) (h.below hw.below).row.1 hol
  rw [hbd.out] at u4
  clear h hl
  unfold SpDoes
  by_cases hb : bd = 0
  · subst hb
    cases hr : leadM m t k with
    | none =>
      have HS : Hid (lookedM m t k = ({ m with bad := 5 }, 0)) := by show _ = _; unfold lookedM; rw [if_pos hbd.out, hr]
      rw [HS.out]
      rw [hr] at cL
      simp only [Option.isSome_none] at cL
      clear hr
      go_enter Try.func61, Try.ntmps61
      have B1 : Hid (Box W (.cells #[.int .i64 t, .int .i64 k] 31 (0, 0)) (W.alloc (.cells #[.int .i64 t, .int .i64 k] 31 (0, 0)))) := Box.first _ _
      go_wp2_with fail
      generalize W.alloc (.cells #[.int .i64 t, .int .i64 k] 31 (0, 0)) = W1 at B1 ⊢
      have k1 := HSee.out _ B1.out
      have kd := HSee.out _ B1.out.drew
      go_region_held3 (fun w' => (w'.cell? ⟨p, 0, none⟩ = some (.slice x0 n0 c0) ∧ w'.cell? ⟨p, 1, none⟩ = some (.slice x1 n1 c1) ∧ w'.cell? ⟨p, 2, none⟩ = some (.slice x2 n2 c2) ∧ w'.cell? ⟨p, 3, none⟩ = some (.int .i64 fu) ∧ w'.cell? ⟨p, 4, none⟩ = some (.int .i64 0)) ∧ w'.cell? ⟨W.heap.size, 0, none⟩ = some (.int .i64 t) ∧ w'.cell? ⟨W.heap.size, 1, none⟩ = some (.int .i64 k)) (first | with_reducible exact kA | with_reducible exact kd | with_reducible exact k1) ((go_at_call 89; refine Calls.mono (cL.out _ B1.out.drew) ?_; rintro e wA ⟨rfl, hA⟩; have BA := B1.out.drew.next hA; have kA := HSee.out _ BA))
      have HW : Hid (MmAt K wA p (.slice x0 n0 c0) (.slice x1 n1 c1) (.slice x2 n2 c2) m) := HM.out.below BA.below
      have fr := free_at HW.out.blk 4
      have HF : Hid (MmAt K (wA.setCell ⟨p, 4, none⟩ (.int .i64 5)) p (.slice x0 n0 c0) (.slice x1 n1 c1) (.slice x2 n2 c2) { m with bad := 5 }) := HW.out.badTo 5
      have HBl : Hid (Below K W (wA.setCell ⟨p, 4, none⟩ (.int .i64 5))) := (BA.below.mono hKW).trans (HW.out.set_below 4 _)
      have a4 := kA.1.2.2.2.2
      clear cL HSee kA HW BA hA
      go_wp2
      go_returns
      exact ⟨rfl, ⟨_, _, _, _, _, _, _, _, _, HF.out⟩, HBl.out⟩
    | some c =>
      have HS : Hid (lookedM m t k = (m, c.num)) := by show _ = _; unfold lookedM; rw [if_pos hbd.out, hr]
      rw [HS.out]
      rw [hr] at cL
      simp only [Option.isSome_some] at cL
      obtain ⟨j, rfl, hj, hc, hlv⟩ := lead_some hr
      obtain ⟨g, cap, e, hKg, hgW⟩ : ∃ g cap, Value.slice x0 n0 c0 = .slice (some ⟨g, 0, none⟩) m.cells.length cap ∧ K ≤ g ∧ g < W.heap.size := by
        rcases HM.out.form with ⟨e, _⟩ | h
        · rw [e] at hj; simp at hj
        · exact h
      obtain ⟨rfl, hn, rfl⟩ : x0 = some ⟨g, 0, none⟩ ∧ n0 = m.cells.length ∧ c0 = cap := by simpa using e
      have hj0 : (0 : Int) ≤ (j : Int) := by omega
      have hj1 : (j : Int) < (n0 : Int) := by omega
      have hn2 : n0 ≤ 2000000 := by omega
      have HN : Hid (n0 = m.cells.length) := hn
      have HJ : Hid (∃ hj : j < m.cells.length, m.cells[j] = c) := ⟨hj, hc⟩
      obtain ⟨lv, nu⟩ := c
      simp only at hlv
      subst hlv
      clear hr e hn hj hc hol
      go_enter Try.func61, Try.ntmps61
      have B1 : Hid (Box W (.cells #[.int .i64 t, .int .i64 (j : Int)] 31 (0, 0)) (W.alloc (.cells #[.int .i64 t, .int .i64 (j : Int)] 31 (0, 0)))) := Box.first _ _
      go_wp2_with fail
      generalize W.alloc (.cells #[.int .i64 t, .int .i64 (j : Int)] 31 (0, 0)) = W1 at B1 ⊢
      have k1 := HSee.out _ B1.out
      have kd := HSee.out _ B1.out.drew
      go_region_held3 (fun w' => (w'.cell? ⟨p, 0, none⟩ = some (.slice (some ⟨g, 0, none⟩) n0 c0) ∧ w'.cell? ⟨p, 1, none⟩ = some (.slice x1 n1 c1) ∧ w'.cell? ⟨p, 2, none⟩ = some (.slice x2 n2 c2) ∧ w'.cell? ⟨p, 3, none⟩ = some (.int .i64 fu) ∧ w'.cell? ⟨p, 4, none⟩ = some (.int .i64 0)) ∧ w'.cell? ⟨W.heap.size, 0, none⟩ = some (.int .i64 t) ∧ w'.cell? ⟨W.heap.size, 1, none⟩ = some (.int .i64 (j : Int))) (first | with_reducible exact kA | with_reducible exact kd | with_reducible exact k1) ((go_at_call 89; refine Calls.mono (cL.out _ B1.out.drew) ?_; rintro e wA ⟨rfl, hA⟩; have BA := B1.out.drew.next hA; have kA := HSee.out _ BA))
      have HW : Hid (MmAt K wA p (.slice (some ⟨g, 0, none⟩) n0 c0) (.slice x1 n1 c1) (.slice x2 n2 c2) m) := HM.out.below BA.below
      have hcells : wA.cell? ⟨g, j * 2, none⟩ = some (.bool true) ∧ wA.cell? ⟨g, j * 2 + 1, none⟩ = some (.int .i64 nu) := by
        obtain ⟨hj, hc⟩ := HJ.out
        have h0 := OwnsR.cell CeR.len HW.out.cells HN.out j 0 hj (by decide)
        have h1 := OwnsR.cell CeR.len HW.out.cells HN.out j 1 hj (by decide)
        rw [hc] at h0 h1
        exact ⟨h0, h1⟩
      obtain ⟨y0, y1⟩ := hcells
      have a0 := kA.1.1
      have b1 := kA.2.2
      have HBl : Hid (Below K W wA) := BA.below.mono hKW
      clear cL HSee kA BA hA HS HJ
      go_wp2_with fail
      go_quiet (fail)
      go_wp2
      go_returns
      exact ⟨rfl, ⟨_, _, _, _, _, _, _, _, _, HW.out.below (below_drewN (Below.refl _ _) _)⟩, below_drewN HBl.out _⟩
  · have HS : Hid (lookedM m t k = (m, 0)) := by show _ = _; unfold lookedM; rw [if_neg (by rw [hbd.out]; exact hb)]
    rw [HS.out]
    go_enter Try.func61, Try.ntmps61
    go_wp2
    go_returns
    exact ⟨rfl, ⟨_, _, _, _, _, _, _, _, _, HM.out.below ((Below.refl _ _).alloc (Nat.le_refl _) _)⟩, (Below.refl _ _).alloc hKW _⟩

set_option maxRecDepth 100000 in
set_option maxHeartbeats 3200000 in
theorem l09Fresh_any (K p : Nat) (x0 : Option Addr) (n0 c0 : Nat) (x1 : Option Addr) (n1 c1 : Nat) (x2 : Option Addr) (n2 c2 : Nat) (m : Mm) (k : Int) (W : World) (h : MmAt K W p (.slice x0 n0 c0) (.slice x1 n1 c1) (.slice x2 n2 c2) m) (hl : szMm m ≤ 2000000) :
    Calls Try.prog 59 #[.pointer (some ⟨p, 0, none⟩), .int .i64 k] W fun e w' => (e = .returned (.agg #[.int .i64 (freshM m k).2.1, .int .i64 (freshM m k).2.2]) ∧ (∃ y0 m0 d0, MmAt K w' p (.slice y0 m0 d0) (.slice x1 n1 c1) (.slice x2 n2 c2) (freshM m k).1 ∧ ∀ g ∈ fpOf (.slice y0 m0 d0), g ∈ fpOf (.slice x0 n0 c0) ∨ W.heap.size ≤ g) ∧ Below K W w') ∧ (∀ g, g < W.heap.size → g ≠ p → g ∉ fpOf (.slice x0 n0 c0) → w'.heap[g]? = W.heap[g]?) ∧ W.heap.size ≤ w'.heap.size := by
  have HM : Hid (MmAt K W p (.slice x0 n0 c0) (.slice x1 n1 c1) (.slice x2 n2 c2) m) := h
  have u0 : W.cell? ⟨p, 0, none⟩ = some (.slice x0 n0 c0) := cell_at h.blk 0
  have u4 : W.cell? ⟨p, 4, none⟩ = some (.int .i64 m.bad) := cell_at h.blk 4
  have hlt := h.lt
  have hKW : K ≤ W.heap.size := by have := h.low; omega
  have hol : m.cells.length ≤ 2000000 := by unfold szMm at hl; rw [szRowCe_len] at hl; omega
  obtain ⟨bd, hbd⟩ : ∃ f, Hid (m.bad = f) := ⟨_, (rfl : m.bad = m.bad)⟩
  rw [hbd.out] at u4
  obtain ⟨N, HN⟩ : ∃ N, Hid (m.cells.length = N) := ⟨_, (rfl : m.cells.length = m.cells.length)⟩
  rw [HN.out] at hol
  have B1 : Hid (Box W (.cells #[.int .i64 0, .int .i64 0] 31 (0, 0)) (W.alloc (.cells #[.int .i64 0, .int .i64 0] 31 (0, 0)))) := Box.first _ _
  have HO : Hid (OwnsR ceC 2 (W.alloc (.cells #[.int .i64 0, .int .i64 0] 31 (0, 0))) K 82 (.slice x0 n0 c0) m.cells) := OwnsR.below h.cells ((Below.refl _ _).alloc (Nat.le_refl _) _)
  clear h hl
  by_cases hb : bd = 0
  · subst hb
    have HS : Hid (freshM m k = (pushM m k, 2, (N : Int))) := by show _ = _; unfold freshM; rw [if_pos hbd.out, HN.out]
    rw [HS.out]
    go_enter Try.func59, Try.ntmps59
    go_wp2_with (at_builtin; go_must (refine appendRA CeR.len rfl _ _ 24 rfl K 82 _ 16 Try.underlying24 Try.infoCe rfl (by decide) HO.out ⟨true, k⟩ (ceC_one [⟨true, k⟩] _ (by simp)) rfl (by first | rfl | (simp [Act.eval]; done)) (by rw [HN.out]; omega) (by omega) (by simp; omega) ?_); intro v2' w2 ho hg hat hv; rw [HN.out] at hv; obtain ⟨g', cap', rfl⟩ := hv; have hpb := (hg.block p (by simp; omega) (fun e => by have := (of_nd HM.out.nd).1 p (by unfold fpOf; rw [← e]; simp); exact this.1 rfl)).trans ((B1.out.below.block p hlt).trans HM.out.blk); have hrb := (hg.block W.heap.size (by simp) (fun e => by have := (OwnsR.lt HM.out.cells W.heap.size (by unfold fpOf; rw [← e]; simp)).2; omega)).trans (heap_alloc_new _ _); have a0 := cell_at hpb 0; have b0 := free_at hpb 0; have r0 := cell_at hrb 0; have r1 := cell_at hrb 1; have s0 := free_at hrb 0; have s1 := free_at hrb 1; have HR : Hid (MmAt K (w2.setCell ⟨p, 0, none⟩ (.slice (some ⟨g', 0, none⟩) (N + 1) cap')) p (.slice (some ⟨g', 0, none⟩) (N + 1) cap') (.slice x1 n1 c1) (.slice x2 n2 c2) (pushM m k)) := (HM.out.below B1.out.below).grow0 ho hg hat; have HBl : Hid (Below K W (w2.setCell ⟨p, 0, none⟩ (.slice (some ⟨g', 0, none⟩) (N + 1) cap'))) := ((B1.out.below.mono hKW).grown hg (by simp; omega) (fun x hx => (OwnsR.lt HM.out.cells x (by unfold fpOf; rw [hx]; simp)).1)).setCell (p := ⟨p, 0, none⟩) HM.out.low _; have HG : Hid (W.heap.size ∉ fpOf (.slice (some ⟨g', 0, none⟩) (N + 1) cap')) := (fun hm => (fp_grown hat _ hm).elim (fun h1 => by have := (OwnsR.lt HM.out.cells _ h1).2; omega) (fun h1 => absurd h1 (by simp))); have HGr : Hid (∀ g ∈ fpOf (.slice (some ⟨g', 0, none⟩) (N + 1) cap'), g ∈ fpOf (.slice x0 n0 c0) ∨ W.heap.size ≤ g) := (fun g hm => (fp_grown hat _ hm).elim .inl (fun h1 => .inr (Nat.le_trans (by simp) h1))); have HOld : Hid ((∀ g, g < W.heap.size → g ∉ fpOf (.slice x0 n0 c0) → w2.heap[g]? = W.heap[g]?) ∧ W.heap.size ≤ w2.heap.size) := ⟨fun g hl hn => (hg.block g (by simp; omega) (fun e => hn (by unfold fpOf; rw [← e]; simp))).trans (B1.out.below.block g hl), by have := hg.size; simp at this; omega⟩; have HRB : Hid (w2.heap[W.heap.size]? = some (.cells #[.int .i64 0, .int .i64 0] 31 (0, 0))) := hrb; clear ho hg hat hpb hrb HO; simp at a0 r0 r1)
    obtain ⟨Z, hZ⟩ : ∃ Z, Z = ((w2.setCell ⟨p, 0, none⟩ (.slice (some ⟨g', 0, none⟩) (N + 1) cap')).setCell ⟨W.heap.size, 0, none⟩ (.int .i64 2)).setCell ⟨W.heap.size, 1, none⟩ (.int .i64 (N : Int)) := ⟨_, rfl⟩
    rw [← hZ]
    have h1 : (w2.setCell ⟨p, 0, none⟩ (.slice (some ⟨g', 0, none⟩) (N + 1) cap')).heap[W.heap.size]? = some (.cells #[.int .i64 0, .int .i64 0] 31 (0, 0)) := (kept_set (by omega)).trans HRB.out
    have h2 : Z.heap[W.heap.size]? = some (.cells #[.int .i64 2, .int .i64 (N : Int)] 31 (0, 0)) := by
      rw [hZ]
      exact heap_set (heap_set h1)
    have e0 := cell_at h2 0
    have e1 := cell_at h2 1
    simp at e0 e1
    have l1 : W.heap.size ∉ fpOf (.slice x1 n1 c1) := fun hm => by have := (OwnsR.lt HM.out.input _ hm).2; omega
    have l2 : W.heap.size ∉ fpOf (.slice x2 n2 c2) := fun hm => by have := (OwnsR.lt HM.out.out _ hm).2; omega
    have HZ : MmAt K Z p (.slice (some ⟨g', 0, none⟩) (N + 1) cap') (.slice x1 n1 c1) (.slice x2 n2 c2) (pushM m k) := by
      rw [hZ]
      exact (HR.out.aside W.heap.size 0 _ (by omega) HG.out l1 l2).aside W.heap.size 1 _ (by omega) HG.out l1 l2
    have hZB : Below K W Z := by
      rw [hZ]
      exact (HBl.out.setCell (p := ⟨W.heap.size, 0, none⟩) hKW _).setCell (p := ⟨W.heap.size, 1, none⟩) hKW _
    refine bodyPost_ret (by simp [results, Try.results59, go_sem, e0, e1]; try rfl) rfl ?_
    have hZ1 : ∀ g, g < W.heap.size → g ≠ p → g ∉ fpOf (.slice x0 n0 c0) → Z.heap[g]? = W.heap[g]? := fun g hl hp hn => by
      rw [hZ, kept_set (by omega), kept_set (by omega), kept_set hp]
      exact HOld.out.1 g hl hn
    have hZ2 : W.heap.size ≤ Z.heap.size := by
      rw [hZ]
      simpa using HOld.out.2
    exact ⟨⟨rfl, ⟨_, _, _, HZ, HGr.out⟩, hZB⟩, hZ1, hZ2⟩
  · have HS : Hid (freshM m k = (m, 0, 0)) := by show _ = _; unfold freshM; rw [if_neg (by rw [hbd.out]; exact hb)]
    rw [HS.out]
    go_enter Try.func59, Try.ntmps59
    go_wp2
    go_returns
    have HB3 : Below W.heap.size W (W.alloc (.cells #[.int .i64 0, .int .i64 0] 31 (0, 0))) := by go_grown
    exact ⟨⟨rfl, ⟨_, _, _, HM.out.below HB3, fun _ hg => .inl hg⟩, HB3.mono hKW⟩, fun g hl _ _ => HB3.block g hl, HB3.size⟩

end Go.Proofs.Ytabejilnpblogaa
