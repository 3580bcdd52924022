/-
  The program's keeper of a memory: the cell behind a value, looked at, written, freed. Written by mkkpcell.py.
-/
import Derived.Test.YtabejilnpblogaaKpLive
namespace Go.Proofs.Ytabejilnpblogaa
open Go.RowKit

theorem ptV_some {ads : List (Nat × Nat)} {m : Mm} {k : Int} {c : Ce} (h : liveM m k = some c) : ptV ads m k = .pointer (some ⟨(ads.getD k.toNat (0, 0)).1, (ads.getD k.toNat (0, 0)).2, none⟩) := by
  unfold ptV
  rw [h]
theorem ptV_none {ads : List (Nat × Nat)} {m : Mm} {k : Int} (h : liveM m k = none) : ptV ads m k = .pointer none := by
  unfold ptV
  rw [h]
theorem lead_in {m : Mm} {t k : Int} (ht : 2 ≤ t ∧ t ≤ 4) : leadM m t k = liveM m k := by unfold leadM; rw [if_pos ht]
theorem lead_typ {m : Mm} {t k : Int} {c : Ce} (h : leadM m t k = some c) : (2 ≤ t ∧ t ≤ 4) ∧ liveM m k = some c := by
  unfold leadM at h
  split at h
  · exact ⟨by assumption, h⟩
  · cases h

set_option maxRecDepth 100000 in
set_option maxHeartbeats 1600000 in
theorem kpBehind_some (K p : Nat) (x0 : Option Addr) (n0 c0 : Nat) (x1 : Option Addr) (n1 c1 : Nat) (x2 : Option Addr) (n2 c2 : Nat) (ads : List (Nat × Nat)) (m : Mm) (t k : Int) (c : Ce) (W : World) (h : KpAt K W p (.slice x0 n0 c0) (.slice x1 n1 c1) (.slice x2 n2 c2) ads m) (hl : m.cells.length ≤ 2000000) (hr : leadM m t k = some c) :
    Calls Try.prog 86 #[.pointer (some ⟨p, 0, none⟩), .agg #[.int .i64 t, .int .i64 k]] W fun e w' => e = .returned (.pointer (some ⟨(ads.getD k.toNat (0, 0)).1, (ads.getD k.toNat (0, 0)).2, none⟩)) ∧ Below W.heap.size W w' := by
  obtain ⟨ht, hr2⟩ := lead_typ hr
  have HM : Hid (KpAt K W p (.slice x0 n0 c0) (.slice x1 n1 c1) (.slice x2 n2 c2) ads m) := h
  have hpt := ptV_some (ads := ads) hr2
  obtain ⟨⟨cb, co⟩, hco⟩ : ∃ a, Hid (ads.getD k.toNat (0, 0) = a) := ⟨_, (rfl : ads.getD k.toNat (0, 0) = _)⟩
  rw [hco.out] at hpt ⊢
  simp only at hpt ⊢
  obtain rfl | rfl | rfl : t = 2 ∨ t = 3 ∨ t = 4 := by omega
  · have cL : Hid (∀ w', Box W (.cells #[.int .i64 2, .int .i64 k] 31 (0, 0)) w' → Calls Try.prog 87 #[.pointer (some ⟨p, 0, none⟩), .agg #[.int .i64 2, .int .i64 k]] w' fun e w2 => e = .returned (ptV ads m k) ∧ Below w'.heap.size w' w2) := fun w' hw => kpLive_any K p _ _ _ _ _ _ _ _ _ ads m 2 k w' (h.below hw.below) hl
    rw [hpt] at cL
    have B1 : Hid (Box W (.cells #[.int .i64 2, .int .i64 k] 31 (0, 0)) (W.alloc (.cells #[.int .i64 2, .int .i64 k] 31 (0, 0)))) := Box.first _ _
    clear hr hr2 ht hpt h hl hco
    go_enter Try.func86, Try.ntmps86
    go_wp2_with fail
    go_at_call 87
    refine Calls.mono (cL.out _ B1.out) ?_
    rintro e wA ⟨rfl, hA⟩
    have BA : Hid (Box W (.cells #[.int .i64 2, .int .i64 k] 31 (0, 0)) wA) := B1.out.next hA
    have HA : Hid (KpAt K wA p (.slice x0 n0 c0) (.slice x1 n1 c1) (.slice x2 n2 c2) ads m) := HM.out.below BA.out.below
    clear hA cL B1
    go_wp2
    go_returns
    exact ⟨rfl, BA.out.below⟩
  · have cL : Hid (∀ w', Box W (.cells #[.int .i64 3, .int .i64 k] 31 (0, 0)) w' → Calls Try.prog 87 #[.pointer (some ⟨p, 0, none⟩), .agg #[.int .i64 3, .int .i64 k]] w' fun e w2 => e = .returned (ptV ads m k) ∧ Below w'.heap.size w' w2) := fun w' hw => kpLive_any K p _ _ _ _ _ _ _ _ _ ads m 3 k w' (h.below hw.below) hl
    rw [hpt] at cL
    have B1 : Hid (Box W (.cells #[.int .i64 3, .int .i64 k] 31 (0, 0)) (W.alloc (.cells #[.int .i64 3, .int .i64 k] 31 (0, 0)))) := Box.first _ _
    clear hr hr2 ht hpt h hl hco
    go_enter Try.func86, Try.ntmps86
    go_wp2_with fail
    go_at_call 87
    refine Calls.mono (cL.out _ B1.out) ?_
    rintro e wA ⟨rfl, hA⟩
    have BA : Hid (Box W (.cells #[.int .i64 3, .int .i64 k] 31 (0, 0)) wA) := B1.out.next hA
    have HA : Hid (KpAt K wA p (.slice x0 n0 c0) (.slice x1 n1 c1) (.slice x2 n2 c2) ads m) := HM.out.below BA.out.below
    clear hA cL B1
    go_wp2
    go_returns
    exact ⟨rfl, BA.out.below⟩
  · have cL : Hid (∀ w', Box W (.cells #[.int .i64 4, .int .i64 k] 31 (0, 0)) w' → Calls Try.prog 87 #[.pointer (some ⟨p, 0, none⟩), .agg #[.int .i64 4, .int .i64 k]] w' fun e w2 => e = .returned (ptV ads m k) ∧ Below w'.heap.size w' w2) := fun w' hw => kpLive_any K p _ _ _ _ _ _ _ _ _ ads m 4 k w' (h.below hw.below) hl
    rw [hpt] at cL
    have B1 : Hid (Box W (.cells #[.int .i64 4, .int .i64 k] 31 (0, 0)) (W.alloc (.cells #[.int .i64 4, .int .i64 k] 31 (0, 0)))) := Box.first _ _
    clear hr hr2 ht hpt h hl hco
    go_enter Try.func86, Try.ntmps86
    go_wp2_with fail
    go_at_call 87
    refine Calls.mono (cL.out _ B1.out) ?_
    rintro e wA ⟨rfl, hA⟩
    have BA : Hid (Box W (.cells #[.int .i64 4, .int .i64 k] 31 (0, 0)) wA) := B1.out.next hA
    have HA : Hid (KpAt K wA p (.slice x0 n0 c0) (.slice x1 n1 c1) (.slice x2 n2 c2) ads m) := HM.out.below BA.out.below
    clear hA cL B1
    go_wp2
    go_returns
    exact ⟨rfl, BA.out.below⟩

set_option maxRecDepth 100000 in
set_option maxHeartbeats 1600000 in
theorem kpBehind_none (K p : Nat) (x0 : Option Addr) (n0 c0 : Nat) (x1 : Option Addr) (n1 c1 : Nat) (x2 : Option Addr) (n2 c2 : Nat) (ads : List (Nat × Nat)) (m : Mm) (t k : Int) (W : World) (h : KpAt K W p (.slice x0 n0 c0) (.slice x1 n1 c1) (.slice x2 n2 c2) ads m) (hl : m.cells.length ≤ 2000000) (hr : leadM m t k = none) :
    Calls Try.prog 86 #[.pointer (some ⟨p, 0, none⟩), .agg #[.int .i64 t, .int .i64 k]] W fun e w' => e = .returned (.pointer none) ∧ KpAt K w' p (.slice x0 n0 c0) (.slice x1 n1 c1) (.slice x2 n2 c2) ads { m with bad := 5 } ∧ Below K W w' := by
  have HM : Hid (KpAt K W p (.slice x0 n0 c0) (.slice x1 n1 c1) (.slice x2 n2 c2) ads m) := h
  have hKW : K ≤ W.heap.size := by have := h.low; have := h.lt; omega
  by_cases ht : 2 ≤ t ∧ t ≤ 4
  · rw [lead_in ht] at hr
    have hpt := ptV_none (ads := ads) hr
    obtain rfl | rfl | rfl : t = 2 ∨ t = 3 ∨ t = 4 := by omega
    · have cL : Hid (∀ w', Box W (.cells #[.int .i64 2, .int .i64 k] 31 (0, 0)) w' → Calls Try.prog 87 #[.pointer (some ⟨p, 0, none⟩), .agg #[.int .i64 2, .int .i64 k]] w' fun e w2 => e = .returned (ptV ads m k) ∧ Below w'.heap.size w' w2) := fun w' hw => kpLive_any K p _ _ _ _ _ _ _ _ _ ads m 2 k w' (h.below hw.below) hl
      rw [hpt] at cL
      have B1 : Hid (Box W (.cells #[.int .i64 2, .int .i64 k] 31 (0, 0)) (W.alloc (.cells #[.int .i64 2, .int .i64 k] 31 (0, 0)))) := Box.first _ _
      clear hr ht hpt h hl
      go_enter Try.func86, Try.ntmps86
      go_wp2_with fail
      go_at_call 87
      refine Calls.mono (cL.out _ B1.out) ?_
      rintro e wA ⟨rfl, hA⟩
      have BA : Hid (Box W (.cells #[.int .i64 2, .int .i64 k] 31 (0, 0)) wA) := B1.out.next hA
      have HA : Hid (KpAt K wA p (.slice x0 n0 c0) (.slice x1 n1 c1) (.slice x2 n2 c2) ads m) := HM.out.below BA.out.below
      clear hA cL B1
      have a4 := cell_at HA.out.blk 4
      have f4 := free_at HA.out.blk 4
      have HF : Hid (KpAt K (wA.setCell ⟨p, 4, none⟩ (.int .i64 5)) p (.slice x0 n0 c0) (.slice x1 n1 c1) (.slice x2 n2 c2) ads { m with bad := 5 }) := HA.out.badTo 5
      have HBl : Hid (Below K W (wA.setCell ⟨p, 4, none⟩ (.int .i64 5))) := (BA.out.below.mono hKW).trans (HA.out.set_below 4 _)
      simp at a4
      go_wp2
      go_returns
      exact ⟨rfl, HF.out, HBl.out⟩
    · have cL : Hid (∀ w', Box W (.cells #[.int .i64 3, .int .i64 k] 31 (0, 0)) w' → Calls Try.prog 87 #[.pointer (some ⟨p, 0, none⟩), .agg #[.int .i64 3, .int .i64 k]] w' fun e w2 => e = .returned (ptV ads m k) ∧ Below w'.heap.size w' w2) := fun w' hw => kpLive_any K p _ _ _ _ _ _ _ _ _ ads m 3 k w' (h.below hw.below) hl
      rw [hpt] at cL
      have B1 : Hid (Box W (.cells #[.int .i64 3, .int .i64 k] 31 (0, 0)) (W.alloc (.cells #[.int .i64 3, .int .i64 k] 31 (0, 0)))) := Box.first _ _
      clear hr ht hpt h hl
      go_enter Try.func86, Try.ntmps86
      go_wp2_with fail
      go_at_call 87
      refine Calls.mono (cL.out _ B1.out) ?_
      rintro e wA ⟨rfl, hA⟩
      have BA : Hid (Box W (.cells #[.int .i64 3, .int .i64 k] 31 (0, 0)) wA) := B1.out.next hA
      have HA : Hid (KpAt K wA p (.slice x0 n0 c0) (.slice x1 n1 c1) (.slice x2 n2 c2) ads m) := HM.out.below BA.out.below
      clear hA cL B1
      have a4 := cell_at HA.out.blk 4
      have f4 := free_at HA.out.blk 4
      have HF : Hid (KpAt K (wA.setCell ⟨p, 4, none⟩ (.int .i64 5)) p (.slice x0 n0 c0) (.slice x1 n1 c1) (.slice x2 n2 c2) ads { m with bad := 5 }) := HA.out.badTo 5
      have HBl : Hid (Below K W (wA.setCell ⟨p, 4, none⟩ (.int .i64 5))) := (BA.out.below.mono hKW).trans (HA.out.set_below 4 _)
      simp at a4
      go_wp2
      go_returns
      exact ⟨rfl, HF.out, HBl.out⟩
    · have cL : Hid (∀ w', Box W (.cells #[.int .i64 4, .int .i64 k] 31 (0, 0)) w' → Calls Try.prog 87 #[.pointer (some ⟨p, 0, none⟩), .agg #[.int .i64 4, .int .i64 k]] w' fun e w2 => e = .returned (ptV ads m k) ∧ Below w'.heap.size w' w2) := fun w' hw => kpLive_any K p _ _ _ _ _ _ _ _ _ ads m 4 k w' (h.below hw.below) hl
      rw [hpt] at cL
      have B1 : Hid (Box W (.cells #[.int .i64 4, .int .i64 k] 31 (0, 0)) (W.alloc (.cells #[.int .i64 4, .int .i64 k] 31 (0, 0)))) := Box.first _ _
      clear hr ht hpt h hl
      go_enter Try.func86, Try.ntmps86
      go_wp2_with fail
      go_at_call 87
      refine Calls.mono (cL.out _ B1.out) ?_
      rintro e wA ⟨rfl, hA⟩
      have BA : Hid (Box W (.cells #[.int .i64 4, .int .i64 k] 31 (0, 0)) wA) := B1.out.next hA
      have HA : Hid (KpAt K wA p (.slice x0 n0 c0) (.slice x1 n1 c1) (.slice x2 n2 c2) ads m) := HM.out.below BA.out.below
      clear hA cL B1
      have a4 := cell_at HA.out.blk 4
      have f4 := free_at HA.out.blk 4
      have HF : Hid (KpAt K (wA.setCell ⟨p, 4, none⟩ (.int .i64 5)) p (.slice x0 n0 c0) (.slice x1 n1 c1) (.slice x2 n2 c2) ads { m with bad := 5 }) := HA.out.badTo 5
      have HBl : Hid (Below K W (wA.setCell ⟨p, 4, none⟩ (.int .i64 5))) := (BA.out.below.mono hKW).trans (HA.out.set_below 4 _)
      simp at a4
      go_wp2
      go_returns
      exact ⟨rfl, HF.out, HBl.out⟩
  · have h2 : ¬ t = 2 := by omega
    have h3 : ¬ t = 3 := by omega
    have h4 : ¬ t = 4 := by omega
    have B1 : Hid (Box W (.cells #[.int .i64 t, .int .i64 k] 31 (0, 0)) (W.alloc (.cells #[.int .i64 t, .int .i64 k] 31 (0, 0)))) := Box.first _ _
    have HA : Hid (KpAt K (W.alloc (.cells #[.int .i64 t, .int .i64 k] 31 (0, 0))) p (.slice x0 n0 c0) (.slice x1 n1 c1) (.slice x2 n2 c2) ads m) := h.below B1.out.below
    have a4 := cell_at HA.out.blk 4
    have f4 := free_at HA.out.blk 4
    have HF : Hid (KpAt K ((W.alloc (.cells #[.int .i64 t, .int .i64 k] 31 (0, 0))).setCell ⟨p, 4, none⟩ (.int .i64 5)) p (.slice x0 n0 c0) (.slice x1 n1 c1) (.slice x2 n2 c2) ads { m with bad := 5 }) := HA.out.badTo 5
    have HBl : Hid (Below K W ((W.alloc (.cells #[.int .i64 t, .int .i64 k] 31 (0, 0))).setCell ⟨p, 4, none⟩ (.int .i64 5))) := (B1.out.below.mono hKW).trans (HA.out.set_below 4 _)
    simp at a4
    clear h ht hr
    go_enter Try.func86, Try.ntmps86
    go_wp2
    go_returns
    exact ⟨rfl, HF.out, HBl.out⟩

set_option maxRecDepth 100000 in
set_option maxHeartbeats 1600000 in
theorem kpLooked_any (K p : Nat) (x0 : Option Addr) (n0 c0 : Nat) (x1 : Option Addr) (n1 c1 : Nat) (x2 : Option Addr) (n2 c2 : Nat) (ads : List (Nat × Nat)) (m : Mm) (t k : Int) (W : World) (h : KpAt K W p (.slice x0 n0 c0) (.slice x1 n1 c1) (.slice x2 n2 c2) ads m) (hb : m.bad = 0) (hl : m.cells.length ≤ 2000000) :
    KpDoes 48 #[.pointer (some ⟨p, 0, none⟩), .agg #[.int .i64 t, .int .i64 k]] W K p (lookedM m t k).1 (.int .i64 (lookedM m t k).2) := by
  have HM : Hid (KpAt K W p (.slice x0 n0 c0) (.slice x1 n1 c1) (.slice x2 n2 c2) ads m) := h
  have HBd : Hid (m.bad = 0) := hb
  have hKW : K ≤ W.heap.size := by have := h.low; have := h.lt; omega
  have cN : Hid (leadM m t k = none → ∀ w', Box W (.cells #[.int .i64 t, .int .i64 k] 31 (0, 0)) w' → Calls Try.prog 86 #[.pointer (some ⟨p, 0, none⟩), .agg #[.int .i64 t, .int .i64 k]] w' fun e w2 => e = .returned (.pointer none) ∧ KpAt K w2 p (.slice x0 n0 c0) (.slice x1 n1 c1) (.slice x2 n2 c2) ads { m with bad := 5 } ∧ Below K w' w2) := fun hr w' hw => kpBehind_none K p _ _ _ _ _ _ _ _ _ ads m t k w' (h.below hw.below) hl hr
  have cS : Hid (∀ c, leadM m t k = some c → ∀ w', Box W (.cells #[.int .i64 t, .int .i64 k] 31 (0, 0)) w' → Calls Try.prog 86 #[.pointer (some ⟨p, 0, none⟩), .agg #[.int .i64 t, .int .i64 k]] w' fun e w2 => e = .returned (.pointer (some ⟨(ads.getD k.toNat (0, 0)).1, (ads.getD k.toNat (0, 0)).2, none⟩)) ∧ Below w'.heap.size w' w2) := fun c hr w' hw => kpBehind_some K p _ _ _ _ _ _ _ _ _ ads m t k c w' (h.below hw.below) hl hr
  unfold KpDoes
  cases hr : leadM m t k with
  | none =>
    have HS : Hid (lookedM m t k = ({ m with bad := 5 }, 0)) := by show _ = _; unfold lookedM; rw [if_pos HBd.out, hr]
    rw [HS.out]
    have cN2 : Hid _ := cN.out hr
    clear h hb hl cN cS hr HS
    have B1 : Hid (Box W (.cells #[.int .i64 t, .int .i64 k] 31 (0, 0)) (W.alloc (.cells #[.int .i64 t, .int .i64 k] 31 (0, 0)))) := Box.first _ _
    go_enter Try.func48, Try.ntmps48
    go_wp2_with fail
    go_at_call 86
    refine Calls.mono (cN2.out _ B1.out) ?_
    rintro e wA ⟨rfl, hA, hbA⟩
    have HA : Hid (KpAt K wA p (.slice x0 n0 c0) (.slice x1 n1 c1) (.slice x2 n2 c2) ads { m with bad := 5 }) := hA
    have HBl : Hid (Below K W wA) := (B1.out.below.mono hKW).trans hbA
    clear hA hbA cN2
    go_wp2
    go_returns
    exact ⟨rfl, ⟨_, _, _, _, _, _, _, _, _, _, HA.out⟩, HBl.out⟩
  | some c =>
    have HS : Hid (lookedM m t k = (m, c.num)) := by show _ = _; unfold lookedM; rw [if_pos HBd.out, hr]
    rw [HS.out]
    have cS2 : Hid _ := cS.out c hr
    obtain ⟨j, rfl, hj, hc, hlv⟩ := lead_some hr
    have hja : j < ads.length := by rw [h.len]; exact hj
    have hget : ads.getD ((j : Nat) : Int).toNat (0, 0) = ads[j] := by rw [Int.toNat_natCast]; simp [List.getD, hja]
    obtain ⟨⟨cb, co⟩, hco⟩ : ∃ a, Hid (ads[j] = a) := ⟨_, (rfl : ads[j] = _)⟩
    have HJ : Hid ((∃ (h : j < ads.length) (h' : j < m.cells.length), ads[j] = (cb, co) ∧ m.cells[j] = c)) := ⟨hja, hj, hco.out, hc⟩
    have cS3 : Hid (∀ w', Box W (.cells #[.int .i64 t, .int .i64 (j : Int)] 31 (0, 0)) w' → Calls Try.prog 86 #[.pointer (some ⟨p, 0, none⟩), .agg #[.int .i64 t, .int .i64 (j : Int)]] w' fun e w2 => e = .returned (.pointer (some ⟨cb, co, none⟩)) ∧ Below w'.heap.size w' w2) := by
      have := cS2.out
      rw [hget, hco.out] at this
      exact this
    obtain ⟨lv, nu⟩ := c
    simp only at hlv
    subst hlv
    clear h hb hl cN cS cS2 hr HS hj hc hja hget hco
    have B1 : Hid (Box W (.cells #[.int .i64 t, .int .i64 (j : Int)] 31 (0, 0)) (W.alloc (.cells #[.int .i64 t, .int .i64 (j : Int)] 31 (0, 0)))) := Box.first _ _
    go_enter Try.func48, Try.ntmps48
    go_wp2_with fail
    go_at_call 86
    refine Calls.mono (cS3.out _ B1.out) ?_
    rintro e wA ⟨rfl, hA⟩
    have BA : Hid (Box W (.cells #[.int .i64 t, .int .i64 (j : Int)] 31 (0, 0)) wA) := B1.out.next hA
    have HA : Hid (KpAt K wA p (.slice x0 n0 c0) (.slice x1 n1 c1) (.slice x2 n2 c2) ads m) := HM.out.below BA.out.below
    have hcl : wA.cell? ⟨cb, co, none⟩ = some (.bool true) ∧ wA.cell? ⟨cb, co + 1, none⟩ = some (.int .i64 nu) ∧ wA.frozen? ⟨cb, co, none⟩ = false ∧ wA.frozen? ⟨cb, co + 1, none⟩ = false := by
      obtain ⟨h1, h2, h3, h4⟩ := HJ.out
      have := HA.out.cell j h1 h2
      rw [h3, h4] at this
      exact this
    obtain ⟨y0, y1, fy0, fy1⟩ := hcl
    have hcbK : K ≤ cb := by
      obtain ⟨h1, h2, h3, h4⟩ := HJ.out
      have := (HA.out.far _ (List.getElem_mem h1)).1.1
      rw [h3] at this
      exact this
    clear hA cS3 B1
    go_wp2
    go_returns
    exact ⟨rfl, ⟨_, _, _, _, _, _, _, _, _, _, HA.out⟩, BA.out.below.mono hKW⟩


set_option maxRecDepth 100000 in
set_option maxHeartbeats 1600000 in
theorem kpWritten_any (K p : Nat) (x0 : Option Addr) (n0 c0 : Nat) (x1 : Option Addr) (n1 c1 : Nat) (x2 : Option Addr) (n2 c2 : Nat) (ads : List (Nat × Nat)) (m : Mm) (t k n : Int) (W : World) (h : KpAt K W p (.slice x0 n0 c0) (.slice x1 n1 c1) (.slice x2 n2 c2) ads m) (hb : m.bad = 0) (hl : m.cells.length ≤ 2000000) :
    KpDoes 52 #[.pointer (some ⟨p, 0, none⟩), .agg #[.int .i64 t, .int .i64 k], .int .i64 n] W K p (writtenM m t k n) (.tuple #[]) := by
  have HM : Hid (KpAt K W p (.slice x0 n0 c0) (.slice x1 n1 c1) (.slice x2 n2 c2) ads m) := h
  have HBd : Hid (m.bad = 0) := hb
  have hKW : K ≤ W.heap.size := by have := h.low; have := h.lt; omega
  have cN : Hid (leadM m t k = none → ∀ w', Box W (.cells #[.int .i64 t, .int .i64 k] 31 (0, 0)) w' → Calls Try.prog 86 #[.pointer (some ⟨p, 0, none⟩), .agg #[.int .i64 t, .int .i64 k]] w' fun e w2 => e = .returned (.pointer none) ∧ KpAt K w2 p (.slice x0 n0 c0) (.slice x1 n1 c1) (.slice x2 n2 c2) ads { m with bad := 5 } ∧ Below K w' w2) := fun hr w' hw => kpBehind_none K p _ _ _ _ _ _ _ _ _ ads m t k w' (h.below hw.below) hl hr
  have cS : Hid (∀ c, leadM m t k = some c → ∀ w', Box W (.cells #[.int .i64 t, .int .i64 k] 31 (0, 0)) w' → Calls Try.prog 86 #[.pointer (some ⟨p, 0, none⟩), .agg #[.int .i64 t, .int .i64 k]] w' fun e w2 => e = .returned (.pointer (some ⟨(ads.getD k.toNat (0, 0)).1, (ads.getD k.toNat (0, 0)).2, none⟩)) ∧ Below w'.heap.size w' w2) := fun c hr w' hw => kpBehind_some K p _ _ _ _ _ _ _ _ _ ads m t k c w' (h.below hw.below) hl hr
  unfold KpDoes
  cases hr : leadM m t k with
  | none =>
    have HS : Hid (writtenM m t k n = { m with bad := 5 }) := by show _ = _; unfold writtenM; rw [if_pos HBd.out, hr]
    rw [HS.out]
    have cN2 : Hid _ := cN.out hr
    clear h hb hl cN cS hr HS
    have B1 : Hid (Box W (.cells #[.int .i64 t, .int .i64 k] 31 (0, 0)) (W.alloc (.cells #[.int .i64 t, .int .i64 k] 31 (0, 0)))) := Box.first _ _
    go_enter Try.func52, Try.ntmps52
    go_wp2_with fail
    go_at_call 86
    refine Calls.mono (cN2.out _ B1.out) ?_
    rintro e wA ⟨rfl, hA, hbA⟩
    have HA : Hid (KpAt K wA p (.slice x0 n0 c0) (.slice x1 n1 c1) (.slice x2 n2 c2) ads { m with bad := 5 }) := hA
    have HBl : Hid (Below K W wA) := (B1.out.below.mono hKW).trans hbA
    clear hA hbA cN2
    go_wp2
    go_returns
    exact ⟨rfl, ⟨_, _, _, _, _, _, _, _, _, _, HA.out⟩, HBl.out⟩
  | some c =>
    have HS : Hid (writtenM m t k n = setM m k ⟨true, n⟩) := by show _ = _; unfold writtenM; rw [if_pos HBd.out, hr]
    rw [HS.out]
    have cS2 : Hid _ := cS.out c hr
    obtain ⟨j, rfl, hj, hc, hlv⟩ := lead_some hr
    have hja : j < ads.length := by rw [h.len]; exact hj
    have hget : ads.getD ((j : Nat) : Int).toNat (0, 0) = ads[j] := by rw [Int.toNat_natCast]; simp [List.getD, hja]
    obtain ⟨⟨cb, co⟩, hco⟩ : ∃ a, Hid (ads[j] = a) := ⟨_, (rfl : ads[j] = _)⟩
    have HJ : Hid ((∃ (h : j < ads.length) (h' : j < m.cells.length), ads[j] = (cb, co) ∧ m.cells[j] = c)) := ⟨hja, hj, hco.out, hc⟩
    have cS3 : Hid (∀ w', Box W (.cells #[.int .i64 t, .int .i64 (j : Int)] 31 (0, 0)) w' → Calls Try.prog 86 #[.pointer (some ⟨p, 0, none⟩), .agg #[.int .i64 t, .int .i64 (j : Int)]] w' fun e w2 => e = .returned (.pointer (some ⟨cb, co, none⟩)) ∧ Below w'.heap.size w' w2) := by
      have := cS2.out
      rw [hget, hco.out] at this
      exact this
    obtain ⟨lv, nu⟩ := c
    simp only at hlv
    subst hlv
    clear h hb hl cN cS cS2 hr HS hj hc hja hget hco
    have B1 : Hid (Box W (.cells #[.int .i64 t, .int .i64 (j : Int)] 31 (0, 0)) (W.alloc (.cells #[.int .i64 t, .int .i64 (j : Int)] 31 (0, 0)))) := Box.first _ _
    go_enter Try.func52, Try.ntmps52
    go_wp2_with fail
    go_at_call 86
    refine Calls.mono (cS3.out _ B1.out) ?_
    rintro e wA ⟨rfl, hA⟩
    have BA : Hid (Box W (.cells #[.int .i64 t, .int .i64 (j : Int)] 31 (0, 0)) wA) := B1.out.next hA
    have HA : Hid (KpAt K wA p (.slice x0 n0 c0) (.slice x1 n1 c1) (.slice x2 n2 c2) ads m) := HM.out.below BA.out.below
    have hcl : wA.cell? ⟨cb, co, none⟩ = some (.bool true) ∧ wA.cell? ⟨cb, co + 1, none⟩ = some (.int .i64 nu) ∧ wA.frozen? ⟨cb, co, none⟩ = false ∧ wA.frozen? ⟨cb, co + 1, none⟩ = false := by
      obtain ⟨h1, h2, h3, h4⟩ := HJ.out
      have := HA.out.cell j h1 h2
      rw [h3, h4] at this
      exact this
    obtain ⟨y0, y1, fy0, fy1⟩ := hcl
    have hcbK : K ≤ cb := by
      obtain ⟨h1, h2, h3, h4⟩ := HJ.out
      have := (HA.out.far _ (List.getElem_mem h1)).1.1
      rw [h3] at this
      exact this
    clear hA cS3 B1
    have HF : Hid (KpAt K (wA.setCell ⟨cb, co + 1, none⟩ (.int .i64 n)) p (.slice x0 n0 c0) (.slice x1 n1 c1) (.slice x2 n2 c2) ads (setM m (j : Int) ⟨true, n⟩)) := by
      obtain ⟨h1, h2, h3, h4⟩ := HJ.out
      have := HA.out.cellTo j h1 h2 1 ⟨true, n⟩ (.int .i64 n) (.inr ⟨rfl, rfl, by rw [h4]⟩)
      rw [h3] at this
      exact this
    have HBl : Hid (Below K W (wA.setCell ⟨cb, co + 1, none⟩ (.int .i64 n))) := (BA.out.below.mono hKW).setCell (p := ⟨cb, co + 1, none⟩) hcbK _
    go_wp2
    go_returns
    exact ⟨rfl, ⟨_, _, _, _, _, _, _, _, _, _, HF.out⟩, HBl.out⟩


end Go.Proofs.Ytabejilnpblogaa
