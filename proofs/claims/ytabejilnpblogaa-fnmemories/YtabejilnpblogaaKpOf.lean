/-
  The program's keeper of a memory: made.
-/
import Derived.Test.YtabejilnpblogaaKpBase
import Derived.Lib.SliceRun
import Derived.Deep.RegionLaw
namespace Go.Proofs.Ytabejilnpblogaa
open Go.RowKit

set_option maxRecDepth 100000 in
set_option maxHeartbeats 1600000 in
theorem cloneC_any (B : Nat) (a : Option Addr) (n c : Nat) (xs : List Ce) (w : World) (hB : B ≤ w.heap.size) (hv : RowR ceC 2 w B (.slice a n c) xs) (hn : nilOk (.slice a n c)) (hl : xs.length ≤ 1048576) :
    Calls Try.prog 92 #[.slice a n c] w fun e w' => ∃ a n c, e = .returned (.slice a n c) ∧ OwnsR ceC 2 w' w.heap.size 82 (.slice a n c) xs ∧ Below w.heap.size w w' := by
  have q43 : ∀ (w : World) (a : Option Addr) (n c n' c' : Nat), (binOp .eql 24 (.slice a n c) (.slice none n' c')).run Try.prog w = .ok (.bool a.isNone) w := fun w a n c n' c' => Lib.run_eql_slice_nil w _ _ a n c n' c' Try.underlying24
  have hcap := hv.cap.1
  cases a with
  | none =>
    obtain ⟨rfl, rfl⟩ := hn
    obtain rfl : xs = [] := List.eq_nil_of_length_eq_zero hcap
    go_enter Try.func92, Try.ntmps92
    go_wp2
    go_ret
    exact ⟨_, _, _, rfl, ownsR_nil _ _ _ _ _, Below.refl _ _⟩
  | some ad =>
    have HE0 : Hid (OwnsR ceC 2 (w.alloc (.cells #[] 82)) w.heap.size 82 (.slice (some ⟨w.heap.size, 0, none⟩) 0 0) []) := owns_emptyAt (heap_alloc_new _ _) (Nat.le_refl _)
    have HS0 : Hid (RowR ceC 2 (w.alloc (.cells #[] 82)) B (.slice (some ad) n c) xs) := hv.keep ((Below.refl _ _).alloc hB _)
    clear hv hn hcap
    go_enter Try.func92, Try.ntmps92
    go_wp2_with (at_builtin; go_must (refine appendRow CeR.len rfl _ _ 24 rfl w.heap.size 82 _ 16 Try.underlying24 Try.infoCe rfl (by decide) HE0.out xs B (some ad) n c HS0.out trivial (ceC_one _) rfl rfl (by simp; omega) (by omega) (by simp) ?_); intro a' n' c' w4 ho hg hat)
    have HF : Hid (OwnsR ceC 2 w4 w.heap.size 82 (.slice a' n' c') xs ∧ Below w.heap.size w w4) := by
      refine ⟨ho, ?_⟩
      have h1 : Below w.heap.size w (w.alloc (.cells #[] 82)) := by go_grown
      exact h1.trans ⟨hg.os, hg.tape, hg.output, hg.size, fun k hk => hg.block k (by simp; omega) (by simp [Value.ownBlock]; omega)⟩
    clear ho hg hat
    go_ret
    exact ⟨_, _, _, rfl, HF.out⟩
set_option maxRecDepth 100000 in
set_option maxHeartbeats 1600000 in
theorem cloneN_any (B : Nat) (a : Option Addr) (n c : Nat) (xs : List Int) (w : World) (hB : B ≤ w.heap.size) (hv : RowI w B (.slice a n c) xs) (hn : nilOk (.slice a n c)) (hl : xs.length ≤ 1048576) :
    Calls Try.prog 77 #[.slice a n c] w fun e w' => ∃ a n c, e = .returned (.slice a n c) ∧ OwnsI w' w.heap.size (.slice a n c) xs ∧ Below w.heap.size w w' := by
  have q43 : ∀ (w : World) (a : Option Addr) (n c n' c' : Nat), (binOp .eql 25 (.slice a n c) (.slice none n' c')).run Try.prog w = .ok (.bool a.isNone) w := fun w a n c n' c' => Lib.run_eql_slice_nil w _ _ a n c n' c' Try.underlying25
  have hcap := hv.cap.1
  cases a with
  | none =>
    obtain ⟨rfl, rfl⟩ := hn
    obtain rfl : xs = [] := List.eq_nil_of_length_eq_zero hcap
    go_enter Try.func77, Try.ntmps77
    go_wp2
    go_ret
    exact ⟨_, _, _, rfl, ownsR_nil _ _ _ _ _, Below.refl _ _⟩
  | some ad =>
    have HE0 : Hid (OwnsI (w.alloc (.cells #[] 3)) w.heap.size (.slice (some ⟨w.heap.size, 0, none⟩) 0 0) []) := owns_emptyAt (heap_alloc_new _ _) (Nat.le_refl _)
    have HS0 : Hid (RowI (w.alloc (.cells #[] 3)) B (.slice (some ad) n c) xs) := hv.keep ((Below.refl _ _).alloc hB _)
    clear hv hn hcap
    go_enter Try.func77, Try.ntmps77
    go_wp2_with (at_builtin; go_must (refine appendRow inC_len rfl _ _ 25 rfl w.heap.size 3 _ 8 Try.underlying25 Try.infoInt rfl (by decide) HE0.out xs B (some ad) n c HS0.out trivial (inC_one _) rfl rfl (by simp; omega) (by omega) (by simp) ?_); intro a' n' c' w4 ho hg hat)
    have HF : Hid (OwnsI w4 w.heap.size (.slice a' n' c') xs ∧ Below w.heap.size w w4) := by
      refine ⟨ho, ?_⟩
      have h1 : Below w.heap.size w (w.alloc (.cells #[] 3)) := by go_grown
      exact h1.trans ⟨hg.os, hg.tape, hg.output, hg.size, fun k hk => hg.block k (by simp; omega) (by simp [Value.ownBlock]; omega)⟩
    clear ho hg hat
    go_ret
    exact ⟨_, _, _, rfl, HF.out⟩

/-- A keeper without cells yet. -/
theorem kp_start {K p : Nat} {W0 W2 : World} {v1 v2 : Value} {m : Mm} (hblk : W2.heap[p]? = some (.cells #[.slice none 0 0, v1, v2, .int .i64 m.fuel, .int .i64 m.bad] 97 (0, 0))) (h1 : OwnsI W0 K v1 m.input) (h2 : OwnsI W0 K v2 m.out) (hs : ∀ g, g ≠ p → g < W0.heap.size → W2.heap[g]? = W0.heap[g]?) (h12 : ∀ g ∈ fpOf v1, g ∉ fpOf v2) (hp1 : p ∉ fpOf v1) (hp2 : p ∉ fpOf v2) (hK : K ≤ p) :
    KpAt K W2 p (.slice none 0 0) v1 v2 [] { m with cells := [] } ∧ OwnsI W2 K v1 m.input := by
  have e1 : OwnsI W2 K v1 m.input := OwnsR.same h1 (fun g hg => hs g (fun e => hp1 (e ▸ hg)) (OwnsR.lt h1 g hg).2)
  have e2 : OwnsI W2 K v2 m.out := OwnsR.same h2 (fun g hg => hs g (fun e => hp2 (e ▸ hg)) (OwnsR.lt h2 g hg).2)
  refine ⟨⟨hblk, ownsR_nil _ _ _ _ _, rfl, fun i h => absurd h (Nat.not_lt_zero _), fun a ha => absurd ha (List.not_mem_nil), fun i j hi => absurd hi (Nat.not_lt_zero _), .inl e1, e2, nd_of (fun g hg => by simp [fpOf, Value.ownBlock] at hg) (fun g hg => ⟨fun e => hp1 (e ▸ hg), h12 g hg⟩) (fun g hg e => hp2 (e ▸ hg)), hK⟩, e1⟩

/-- A keeper with its cells. -/
theorem kp_done {K p b0 n0 d0 W2s n c : Nat} {x0 a : Option Addr} {w3 wr : World} {v1 v2 : Value} {m : Mm} (Q3 : KpAt K w3 p (.slice none 0 0) v1 v2 [] { m with cells := [] }) (I3 : OwnsI w3 K v1 m.input) (O3 : OwnsR ceC 2 w3 W2s 82 (.slice x0 n0 d0) m.cells) (hp : p < W2s) (hz : W2s ≤ w3.heap.size) (hf1 : ∀ g ∈ fpOf v1, g < W2s) (hf2 : ∀ g ∈ fpOf v2, g < W2s) (hn0 : n0 = m.cells.length) (hx0 : 0 < n0 → x0 = some ⟨b0, 0, none⟩ ∧ W2s ≤ b0 ∧ b0 < w3.heap.size) (hB : wr.heap[p]? = some (.cells #[.slice a n c, v1, v2, .int .i64 m.fuel, .int .i64 m.bad] 97 (0, 0))) (hO : OwnsR ptC 1 wr w3.heap.size 99 (.slice a n c) ((List.range n0).map (fun j => (b0, j * 2)))) (hR : Rim p (p + 1) w3 wr) :
    KpAt K wr p (.slice a n c) v1 v2 ((List.range n0).map (fun j => (b0, j * 2))) m ∧ OwnsI wr K v1 m.input := by
  have ha := of_nd Q3.nd
  have hlow := Q3.low
  have hs : ∀ g, g < w3.heap.size → g ≠ p → wr.heap[g]? = w3.heap[g]? := fun g hg hn => hR.block g hg (by omega)
  have hv0 : ∀ g ∈ fpOf (.slice a n c), w3.heap.size ≤ g := fun g hg => (OwnsR.lt hO g hg).1
  have hzz := hR.size
  have i1 : OwnsI wr K v1 m.input := OwnsR.same I3 (fun g hg => hs g (by have := hf1 g hg; omega) (ha.2.1 g hg).1)
  have i2 : OwnsI wr K v2 m.out := OwnsR.same Q3.out (fun g hg => hs g (by have := hf2 g hg; omega) (ha.2.2 g hg))
  refine ⟨⟨hB, OwnsR.base hO (fun g hg => by have := hv0 g hg; omega), by simp [hn0], fun i hi hi' => ?_, fun q hq => ?_, fun i j hi hj hij => ?_, .inl i1, i2, nd_of (fun g hg => ⟨by have := hv0 g hg; omega, fun hm => by have := hv0 g hg; have := hf1 g hm; omega, fun hm => by have := hv0 g hg; have := hf2 g hm; omega⟩) ha.2.1 ha.2.2, hlow⟩, i1⟩
  · have hin : i < n0 := by omega
    obtain ⟨e, hb0, hb1⟩ := hx0 (by omega)
    subst e
    have hh := hs b0 hb1 (by omega)
    simp only [List.getElem_map, List.getElem_range]
    rw [cell_same hh, cell_same hh, frozen_same hh, frozen_same hh]
    exact ⟨OwnsR.cell CeR.len O3 hn0 i 0 hi' (by decide), OwnsR.cell CeR.len O3 hn0 i 1 hi' (by decide), OwnsR.free O3 hn0 _, OwnsR.free O3 hn0 _⟩
  · obtain ⟨j, hj, rfl⟩ := List.mem_map.mp hq
    have hj' := List.mem_range.mp hj
    obtain ⟨_, hb0, hb1⟩ := hx0 (by omega)
    exact ⟨⟨by show K ≤ b0; omega, by show b0 < _; omega, by show b0 ≠ p; omega⟩, fun hm => by have : w3.heap.size ≤ b0 := hv0 _ hm; omega, fun hm => by have : b0 < W2s := hf1 _ hm; omega, fun hm => by have : b0 < W2s := hf2 _ hm; omega⟩
  · simp only [List.getElem_map, List.getElem_range]
    exact .inr (by omega)

set_option maxRecDepth 100000 in
set_option maxHeartbeats 3200000 in
theorem keeperOf_any (B : Nat) (m : Mm) (s0 : Option Addr) (N0 k0 : Nat) (s1 : Option Addr) (N1 k1 : Nat) (s2 : Option Addr) (N2 k2 : Nat) (w : World) (hB : B ≤ w.heap.size) (ha : RowMm w B (.slice s0 N0 k0) (.slice s1 N1 k1) (.slice s2 N2 k2) m) (hn : nilOk (.slice s0 N0 k0) ∧ nilOk (.slice s1 N1 k1) ∧ nilOk (.slice s2 N2 k2)) (hl : szMm m ≤ 1048576) :
    Calls Try.prog 84 #[.agg #[.slice s0 N0 k0, .slice s1 N1 k1, .slice s2 N2 k2, .int .i64 m.fuel, .int .i64 m.bad]] w fun e w' => ∃ p x0 n0 c0 x1 n1 c1 x2 n2 c2 ads, e = .returned (.pointer (some ⟨p, 0, none⟩)) ∧ KpAt w.heap.size w' p (.slice x0 n0 c0) (.slice x1 n1 c1) (.slice x2 n2 c2) ads m ∧ OwnsI w' w.heap.size (.slice x1 n1 c1) m.input ∧ Below w.heap.size w w' := by
  have hl0 : m.cells.length ≤ 1048576 := by unfold szMm at hl; rw [szRowCe_len] at hl; omega
  have hl1 : m.input.length ≤ 1048576 := by unfold szMm at hl; omega
  have hl2 : m.out.length ≤ 1048576 := by unfold szMm at hl; omega
  have c0 : Hid (∀ W, Below w.heap.size w W → Calls Try.prog 92 #[.slice s0 N0 k0] W fun e w' => ∃ a n c, e = .returned (.slice a n c) ∧ OwnsR ceC 2 w' W.heap.size 82 (.slice a n c) m.cells ∧ Below W.heap.size W w') := fun W hW => cloneC_any B _ _ _ m.cells W (Nat.le_trans hB hW.size) ((CeR.rowR ha.1).keep (hW.mono hB)) hn.1 hl0
  have c1 : Hid (∀ W, Below w.heap.size w W → Calls Try.prog 77 #[.slice s1 N1 k1] W fun e w' => ∃ a n c, e = .returned (.slice a n c) ∧ OwnsI w' W.heap.size (.slice a n c) m.input ∧ Below W.heap.size W w') := fun W hW => cloneN_any B _ _ _ m.input W (Nat.le_trans hB hW.size) (ha.2.1.keep (hW.mono hB)) hn.2.1 hl1
  have c2 : Hid (∀ W, Below w.heap.size w W → Calls Try.prog 77 #[.slice s2 N2 k2] W fun e w' => ∃ a n c, e = .returned (.slice a n c) ∧ OwnsI w' W.heap.size (.slice a n c) m.out ∧ Below W.heap.size W w') := fun W hW => cloneN_any B _ _ _ m.out W (Nat.le_trans hB hW.size) (ha.2.2.keep (hW.mono hB)) hn.2.2 hl2
  obtain ⟨fu, hfu⟩ : ∃ f, Hid (m.fuel = f) := ⟨_, (rfl : m.fuel = m.fuel)⟩
  obtain ⟨bd, hbd⟩ : ∃ f, Hid (m.bad = f) := ⟨_, (rfl : m.bad = m.bad)⟩
  rw [hfu.out, hbd.out]
  clear ha hn hl
  go_enter Try.func84, Try.ntmps84
  have B1 : Hid (Box w (.cells #[.slice s0 N0 k0, .slice s1 N1 k1, .slice s2 N2 k2, .int .i64 fu, .int .i64 bd] 27 (0, 0)) (w.alloc (.cells #[.slice s0 N0 k0, .slice s1 N1 k1, .slice s2 N2 k2, .int .i64 fu, .int .i64 bd] 27 (0, 0)))) := Box.first _ _
  go_wp2_with fail
  generalize w.alloc (.cells #[.slice s0 N0 k0, .slice s1 N1 k1, .slice s2 N2 k2, .int .i64 fu, .int .i64 bd] 27 (0, 0)) = W1 at B1 ⊢
  have a0 : W1.cell? ⟨w.heap.size, 0, none⟩ = some (.slice s0 N0 k0) := B1.out.cell 0
  have a1 : W1.cell? ⟨w.heap.size, 1, none⟩ = some (.slice s1 N1 k1) := B1.out.cell 1
  have a2 : W1.cell? ⟨w.heap.size, 2, none⟩ = some (.slice s2 N2 k2) := B1.out.cell 2
  have a3 : W1.cell? ⟨w.heap.size, 3, none⟩ = some (.int .i64 fu) := B1.out.cell 3
  have a4 : W1.cell? ⟨w.heap.size, 4, none⟩ = some (.int .i64 bd) := B1.out.cell 4
  have kd : W1.drew.cell? ⟨w.heap.size, 0, none⟩ = some (.slice s0 N0 k0) ∧ W1.drew.cell? ⟨w.heap.size, 1, none⟩ = some (.slice s1 N1 k1) ∧ W1.drew.cell? ⟨w.heap.size, 2, none⟩ = some (.slice s2 N2 k2) ∧ W1.drew.cell? ⟨w.heap.size, 3, none⟩ = some (.int .i64 fu) ∧ W1.drew.cell? ⟨w.heap.size, 4, none⟩ = some (.int .i64 bd) := ⟨(B1.out.drew).cell 0, (B1.out.drew).cell 1, (B1.out.drew).cell 2, (B1.out.drew).cell 3, (B1.out.drew).cell 4⟩
  have kda : (W1.alloc (.cells #[.slice none 0 0, .slice none 0 0, .slice none 0 0, .int .i64 0, .int .i64 0] 97 (0, 0))).drew.cell? ⟨w.heap.size, 0, none⟩ = some (.slice s0 N0 k0) ∧ (W1.alloc (.cells #[.slice none 0 0, .slice none 0 0, .slice none 0 0, .int .i64 0, .int .i64 0] 97 (0, 0))).drew.cell? ⟨w.heap.size, 1, none⟩ = some (.slice s1 N1 k1) ∧ (W1.alloc (.cells #[.slice none 0 0, .slice none 0 0, .slice none 0 0, .int .i64 0, .int .i64 0] 97 (0, 0))).drew.cell? ⟨w.heap.size, 2, none⟩ = some (.slice s2 N2 k2) ∧ (W1.alloc (.cells #[.slice none 0 0, .slice none 0 0, .slice none 0 0, .int .i64 0, .int .i64 0] 97 (0, 0))).drew.cell? ⟨w.heap.size, 3, none⟩ = some (.int .i64 fu) ∧ (W1.alloc (.cells #[.slice none 0 0, .slice none 0 0, .slice none 0 0, .int .i64 0, .int .i64 0] 97 (0, 0))).drew.cell? ⟨w.heap.size, 4, none⟩ = some (.int .i64 bd) := ⟨((B1.out.alloc _).drew).cell 0, ((B1.out.alloc _).drew).cell 1, ((B1.out.alloc _).drew).cell 2, ((B1.out.alloc _).drew).cell 3, ((B1.out.alloc _).drew).cell 4⟩
  go_region_held3 (fun w' => w'.cell? ⟨w.heap.size, 0, none⟩ = some (.slice s0 N0 k0) ∧ w'.cell? ⟨w.heap.size, 1, none⟩ = some (.slice s1 N1 k1) ∧ w'.cell? ⟨w.heap.size, 2, none⟩ = some (.slice s2 N2 k2) ∧ w'.cell? ⟨w.heap.size, 3, none⟩ = some (.int .i64 fu) ∧ w'.cell? ⟨w.heap.size, 4, none⟩ = some (.int .i64 bd)) (with_reducible assumption) (first | (have _z := BX; clear _z; go_at_call 77; refine Calls.mono (c2.out _ (by first | exact BX.below | exact (BX.alloc _).below)) ?_; rintro e wY ⟨x2, n2, d2, rfl, ho2, hb2⟩; have BY := Box.next (by first | exact BX | exact BX.alloc _) hb2; (try (have zb : wY.heap[wX.heap.size]? = some (.cells #[.slice none 0 0, .slice none 0 0, .slice none 0 0, .int .i64 0, .int .i64 0] 97 (0, 0)) := (hb2.block wX.heap.size (by simp)).trans (heap_alloc_new wX (.cells #[.slice none 0 0, .slice none 0 0, .slice none 0 0, .int .i64 0, .int .i64 0] 97 (0, 0))); have zb0 := cell_at zb 0; have zbf0 := free_at zb 0; have zb1 := cell_at zb 1; have zbf1 := free_at zb 1; have zb2 := cell_at zb 2; have zbf2 := free_at zb 2; have zb3 := cell_at zb 3; have zbf3 := free_at zb 3; have zb4 := cell_at zb 4; have zbf4 := free_at zb 4; simp at zb0 zb1 zb2 zb3 zb4)); (try (have zd : wY.heap[W1.heap.size]? = some (.cells #[.slice none 0 0, .slice none 0 0, .slice none 0 0, .int .i64 0, .int .i64 0] 97 (0, 0)) := (hb2.block W1.heap.size (by have := hb1.size; simp at this; omega)).trans zc; have zd0 := cell_at zd 0; have zdf0 := free_at zd 0; have zd1 := cell_at zd 1; have zdf1 := free_at zd 1; have zd2 := cell_at zd 2; have zdf2 := free_at zd 2; have zd3 := cell_at zd 3; have zdf3 := free_at zd 3; have zd4 := cell_at zd 4; have zdf4 := free_at zd 4; simp at zd0 zd1 zd2 zd3 zd4)); have kY : wY.cell? ⟨w.heap.size, 0, none⟩ = some (.slice s0 N0 k0) ∧ wY.cell? ⟨w.heap.size, 1, none⟩ = some (.slice s1 N1 k1) ∧ wY.cell? ⟨w.heap.size, 2, none⟩ = some (.slice s2 N2 k2) ∧ wY.cell? ⟨w.heap.size, 3, none⟩ = some (.int .i64 fu) ∧ wY.cell? ⟨w.heap.size, 4, none⟩ = some (.int .i64 bd) := ⟨(BY).cell 0, (BY).cell 1, (BY).cell 2, (BY).cell 3, (BY).cell 4⟩; have kYa : (wY.alloc (.cells #[.slice none 0 0, .slice none 0 0, .slice none 0 0, .int .i64 0, .int .i64 0] 97 (0, 0))).cell? ⟨w.heap.size, 0, none⟩ = some (.slice s0 N0 k0) ∧ (wY.alloc (.cells #[.slice none 0 0, .slice none 0 0, .slice none 0 0, .int .i64 0, .int .i64 0] 97 (0, 0))).cell? ⟨w.heap.size, 1, none⟩ = some (.slice s1 N1 k1) ∧ (wY.alloc (.cells #[.slice none 0 0, .slice none 0 0, .slice none 0 0, .int .i64 0, .int .i64 0] 97 (0, 0))).cell? ⟨w.heap.size, 2, none⟩ = some (.slice s2 N2 k2) ∧ (wY.alloc (.cells #[.slice none 0 0, .slice none 0 0, .slice none 0 0, .int .i64 0, .int .i64 0] 97 (0, 0))).cell? ⟨w.heap.size, 3, none⟩ = some (.int .i64 fu) ∧ (wY.alloc (.cells #[.slice none 0 0, .slice none 0 0, .slice none 0 0, .int .i64 0, .int .i64 0] 97 (0, 0))).cell? ⟨w.heap.size, 4, none⟩ = some (.int .i64 bd) := ⟨(BY.alloc _).cell 0, (BY.alloc _).cell 1, (BY.alloc _).cell 2, (BY.alloc _).cell 3, (BY.alloc _).cell 4⟩; have kYs : (wY.alloc (.cells #[.slice none 0 0, .slice x1 n1 d1, .slice x2 n2 d2, .int .i64 fu, .int .i64 bd] 97 (0, 0))).cell? ⟨w.heap.size, 0, none⟩ = some (.slice s0 N0 k0) ∧ (wY.alloc (.cells #[.slice none 0 0, .slice x1 n1 d1, .slice x2 n2 d2, .int .i64 fu, .int .i64 bd] 97 (0, 0))).cell? ⟨w.heap.size, 1, none⟩ = some (.slice s1 N1 k1) ∧ (wY.alloc (.cells #[.slice none 0 0, .slice x1 n1 d1, .slice x2 n2 d2, .int .i64 fu, .int .i64 bd] 97 (0, 0))).cell? ⟨w.heap.size, 2, none⟩ = some (.slice s2 N2 k2) ∧ (wY.alloc (.cells #[.slice none 0 0, .slice x1 n1 d1, .slice x2 n2 d2, .int .i64 fu, .int .i64 bd] 97 (0, 0))).cell? ⟨w.heap.size, 3, none⟩ = some (.int .i64 fu) ∧ (wY.alloc (.cells #[.slice none 0 0, .slice x1 n1 d1, .slice x2 n2 d2, .int .i64 fu, .int .i64 bd] 97 (0, 0))).cell? ⟨w.heap.size, 4, none⟩ = some (.int .i64 bd) := ⟨(BY.alloc _).cell 0, (BY.alloc _).cell 1, (BY.alloc _).cell 2, (BY.alloc _).cell 3, (BY.alloc _).cell 4⟩; have kYb : (((((wY.setCell ⟨wX.heap.size, 0, none⟩ (.slice none 0 0)).setCell ⟨wX.heap.size, 1, none⟩ (.slice x1 n1 d1)).setCell ⟨wX.heap.size, 2, none⟩ (.slice x2 n2 d2)).setCell ⟨wX.heap.size, 3, none⟩ (.int .i64 fu)).setCell ⟨wX.heap.size, 4, none⟩ (.int .i64 bd)).cell? ⟨w.heap.size, 0, none⟩ = some (.slice s0 N0 k0) ∧ (((((wY.setCell ⟨wX.heap.size, 0, none⟩ (.slice none 0 0)).setCell ⟨wX.heap.size, 1, none⟩ (.slice x1 n1 d1)).setCell ⟨wX.heap.size, 2, none⟩ (.slice x2 n2 d2)).setCell ⟨wX.heap.size, 3, none⟩ (.int .i64 fu)).setCell ⟨wX.heap.size, 4, none⟩ (.int .i64 bd)).cell? ⟨w.heap.size, 1, none⟩ = some (.slice s1 N1 k1) ∧ (((((wY.setCell ⟨wX.heap.size, 0, none⟩ (.slice none 0 0)).setCell ⟨wX.heap.size, 1, none⟩ (.slice x1 n1 d1)).setCell ⟨wX.heap.size, 2, none⟩ (.slice x2 n2 d2)).setCell ⟨wX.heap.size, 3, none⟩ (.int .i64 fu)).setCell ⟨wX.heap.size, 4, none⟩ (.int .i64 bd)).cell? ⟨w.heap.size, 2, none⟩ = some (.slice s2 N2 k2) ∧ (((((wY.setCell ⟨wX.heap.size, 0, none⟩ (.slice none 0 0)).setCell ⟨wX.heap.size, 1, none⟩ (.slice x1 n1 d1)).setCell ⟨wX.heap.size, 2, none⟩ (.slice x2 n2 d2)).setCell ⟨wX.heap.size, 3, none⟩ (.int .i64 fu)).setCell ⟨wX.heap.size, 4, none⟩ (.int .i64 bd)).cell? ⟨w.heap.size, 3, none⟩ = some (.int .i64 fu) ∧ (((((wY.setCell ⟨wX.heap.size, 0, none⟩ (.slice none 0 0)).setCell ⟨wX.heap.size, 1, none⟩ (.slice x1 n1 d1)).setCell ⟨wX.heap.size, 2, none⟩ (.slice x2 n2 d2)).setCell ⟨wX.heap.size, 3, none⟩ (.int .i64 fu)).setCell ⟨wX.heap.size, 4, none⟩ (.int .i64 bd)).cell? ⟨w.heap.size, 4, none⟩ = some (.int .i64 bd) := ⟨(((((((((((BY).setCell (j := 0) BX.lt (.slice none 0 0))).setCell (j := 1) BX.lt (.slice x1 n1 d1))).setCell (j := 2) BX.lt (.slice x2 n2 d2))).setCell (j := 3) BX.lt (.int .i64 fu))).setCell (j := 4) BX.lt (.int .i64 bd))).cell 0, (((((((((((BY).setCell (j := 0) BX.lt (.slice none 0 0))).setCell (j := 1) BX.lt (.slice x1 n1 d1))).setCell (j := 2) BX.lt (.slice x2 n2 d2))).setCell (j := 3) BX.lt (.int .i64 fu))).setCell (j := 4) BX.lt (.int .i64 bd))).cell 1, (((((((((((BY).setCell (j := 0) BX.lt (.slice none 0 0))).setCell (j := 1) BX.lt (.slice x1 n1 d1))).setCell (j := 2) BX.lt (.slice x2 n2 d2))).setCell (j := 3) BX.lt (.int .i64 fu))).setCell (j := 4) BX.lt (.int .i64 bd))).cell 2, (((((((((((BY).setCell (j := 0) BX.lt (.slice none 0 0))).setCell (j := 1) BX.lt (.slice x1 n1 d1))).setCell (j := 2) BX.lt (.slice x2 n2 d2))).setCell (j := 3) BX.lt (.int .i64 fu))).setCell (j := 4) BX.lt (.int .i64 bd))).cell 3, (((((((((((BY).setCell (j := 0) BX.lt (.slice none 0 0))).setCell (j := 1) BX.lt (.slice x1 n1 d1))).setCell (j := 2) BX.lt (.slice x2 n2 d2))).setCell (j := 3) BX.lt (.int .i64 fu))).setCell (j := 4) BX.lt (.int .i64 bd))).cell 4⟩; have kYc : (((((wY.setCell ⟨W1.heap.size, 0, none⟩ (.slice none 0 0)).setCell ⟨W1.heap.size, 1, none⟩ (.slice x1 n1 d1)).setCell ⟨W1.heap.size, 2, none⟩ (.slice x2 n2 d2)).setCell ⟨W1.heap.size, 3, none⟩ (.int .i64 fu)).setCell ⟨W1.heap.size, 4, none⟩ (.int .i64 bd)).cell? ⟨w.heap.size, 0, none⟩ = some (.slice s0 N0 k0) ∧ (((((wY.setCell ⟨W1.heap.size, 0, none⟩ (.slice none 0 0)).setCell ⟨W1.heap.size, 1, none⟩ (.slice x1 n1 d1)).setCell ⟨W1.heap.size, 2, none⟩ (.slice x2 n2 d2)).setCell ⟨W1.heap.size, 3, none⟩ (.int .i64 fu)).setCell ⟨W1.heap.size, 4, none⟩ (.int .i64 bd)).cell? ⟨w.heap.size, 1, none⟩ = some (.slice s1 N1 k1) ∧ (((((wY.setCell ⟨W1.heap.size, 0, none⟩ (.slice none 0 0)).setCell ⟨W1.heap.size, 1, none⟩ (.slice x1 n1 d1)).setCell ⟨W1.heap.size, 2, none⟩ (.slice x2 n2 d2)).setCell ⟨W1.heap.size, 3, none⟩ (.int .i64 fu)).setCell ⟨W1.heap.size, 4, none⟩ (.int .i64 bd)).cell? ⟨w.heap.size, 2, none⟩ = some (.slice s2 N2 k2) ∧ (((((wY.setCell ⟨W1.heap.size, 0, none⟩ (.slice none 0 0)).setCell ⟨W1.heap.size, 1, none⟩ (.slice x1 n1 d1)).setCell ⟨W1.heap.size, 2, none⟩ (.slice x2 n2 d2)).setCell ⟨W1.heap.size, 3, none⟩ (.int .i64 fu)).setCell ⟨W1.heap.size, 4, none⟩ (.int .i64 bd)).cell? ⟨w.heap.size, 3, none⟩ = some (.int .i64 fu) ∧ (((((wY.setCell ⟨W1.heap.size, 0, none⟩ (.slice none 0 0)).setCell ⟨W1.heap.size, 1, none⟩ (.slice x1 n1 d1)).setCell ⟨W1.heap.size, 2, none⟩ (.slice x2 n2 d2)).setCell ⟨W1.heap.size, 3, none⟩ (.int .i64 fu)).setCell ⟨W1.heap.size, 4, none⟩ (.int .i64 bd)).cell? ⟨w.heap.size, 4, none⟩ = some (.int .i64 bd) := ⟨(((((((((((BY).setCell (j := 0) B1.out.lt (.slice none 0 0))).setCell (j := 1) B1.out.lt (.slice x1 n1 d1))).setCell (j := 2) B1.out.lt (.slice x2 n2 d2))).setCell (j := 3) B1.out.lt (.int .i64 fu))).setCell (j := 4) B1.out.lt (.int .i64 bd))).cell 0, (((((((((((BY).setCell (j := 0) B1.out.lt (.slice none 0 0))).setCell (j := 1) B1.out.lt (.slice x1 n1 d1))).setCell (j := 2) B1.out.lt (.slice x2 n2 d2))).setCell (j := 3) B1.out.lt (.int .i64 fu))).setCell (j := 4) B1.out.lt (.int .i64 bd))).cell 1, (((((((((((BY).setCell (j := 0) B1.out.lt (.slice none 0 0))).setCell (j := 1) B1.out.lt (.slice x1 n1 d1))).setCell (j := 2) B1.out.lt (.slice x2 n2 d2))).setCell (j := 3) B1.out.lt (.int .i64 fu))).setCell (j := 4) B1.out.lt (.int .i64 bd))).cell 2, (((((((((((BY).setCell (j := 0) B1.out.lt (.slice none 0 0))).setCell (j := 1) B1.out.lt (.slice x1 n1 d1))).setCell (j := 2) B1.out.lt (.slice x2 n2 d2))).setCell (j := 3) B1.out.lt (.int .i64 fu))).setCell (j := 4) B1.out.lt (.int .i64 bd))).cell 3, (((((((((((BY).setCell (j := 0) B1.out.lt (.slice none 0 0))).setCell (j := 1) B1.out.lt (.slice x1 n1 d1))).setCell (j := 2) B1.out.lt (.slice x2 n2 d2))).setCell (j := 3) B1.out.lt (.int .i64 fu))).setCell (j := 4) B1.out.lt (.int .i64 bd))).cell 4⟩) | (go_at_call 77; refine Calls.mono (c1.out _ (by first | exact B1.out.drew.below | exact (B1.out.alloc _).drew.below)) ?_; rintro e wX ⟨x1, n1, d1, rfl, ho1, hb1⟩; have BX := Box.next (by first | exact B1.out.drew | exact (B1.out.alloc _).drew) hb1; (try have zc : wX.heap[W1.heap.size]? = some (.cells #[.slice none 0 0, .slice none 0 0, .slice none 0 0, .int .i64 0, .int .i64 0] 97 (0, 0)) := (hb1.block W1.heap.size (by simp)).trans (heap_alloc_new W1 (.cells #[.slice none 0 0, .slice none 0 0, .slice none 0 0, .int .i64 0, .int .i64 0] 97 (0, 0)))); have kX : wX.cell? ⟨w.heap.size, 0, none⟩ = some (.slice s0 N0 k0) ∧ wX.cell? ⟨w.heap.size, 1, none⟩ = some (.slice s1 N1 k1) ∧ wX.cell? ⟨w.heap.size, 2, none⟩ = some (.slice s2 N2 k2) ∧ wX.cell? ⟨w.heap.size, 3, none⟩ = some (.int .i64 fu) ∧ wX.cell? ⟨w.heap.size, 4, none⟩ = some (.int .i64 bd) := ⟨(BX).cell 0, (BX).cell 1, (BX).cell 2, (BX).cell 3, (BX).cell 4⟩; have kXa : (wX.alloc (.cells #[.slice none 0 0, .slice none 0 0, .slice none 0 0, .int .i64 0, .int .i64 0] 97 (0, 0))).cell? ⟨w.heap.size, 0, none⟩ = some (.slice s0 N0 k0) ∧ (wX.alloc (.cells #[.slice none 0 0, .slice none 0 0, .slice none 0 0, .int .i64 0, .int .i64 0] 97 (0, 0))).cell? ⟨w.heap.size, 1, none⟩ = some (.slice s1 N1 k1) ∧ (wX.alloc (.cells #[.slice none 0 0, .slice none 0 0, .slice none 0 0, .int .i64 0, .int .i64 0] 97 (0, 0))).cell? ⟨w.heap.size, 2, none⟩ = some (.slice s2 N2 k2) ∧ (wX.alloc (.cells #[.slice none 0 0, .slice none 0 0, .slice none 0 0, .int .i64 0, .int .i64 0] 97 (0, 0))).cell? ⟨w.heap.size, 3, none⟩ = some (.int .i64 fu) ∧ (wX.alloc (.cells #[.slice none 0 0, .slice none 0 0, .slice none 0 0, .int .i64 0, .int .i64 0] 97 (0, 0))).cell? ⟨w.heap.size, 4, none⟩ = some (.int .i64 bd) := ⟨(BX.alloc _).cell 0, (BX.alloc _).cell 1, (BX.alloc _).cell 2, (BX.alloc _).cell 3, (BX.alloc _).cell 4⟩))
  · have HQ0 := kp_start (K := w.heap.size) (p := wY.heap.size) (W0 := wY) (W2 := (wY.alloc (.cells #[.slice none 0 0, .slice x1 n1 d1, .slice x2 n2 d2, .int .i64 fu, .int .i64 bd] 97 (0, 0)))) (v1 := .slice x1 n1 d1) (v2 := .slice x2 n2 d2) (m := m) (by rw [hfu.out, hbd.out]; exact (heap_alloc_new _ _)) (OwnsR.base (OwnsR.below ho1 hb2) (fun g hg => by have h3 := (OwnsR.lt ho1 g hg).1; have h4 := B1.out.lt; (try simp at h3); omega)) (OwnsR.base ho2 (fun g hg => by have h3 := (OwnsR.lt ho2 g hg).1; have h4 := BX.lt; (try simp at h3); omega)) (fun g _ hl => Below.heap_alloc wY _ g hl) (fun g hg hg' => by have h3 := (OwnsR.lt ho1 g hg).2; have h4 := (OwnsR.lt ho2 g hg').1; (try simp at h4); omega) (fun hm => by have h3 := (OwnsR.lt ho1 _ hm).2; have h4 := hb2.size; omega) (fun hm => by have h3 := (OwnsR.lt ho2 _ hm).2; omega) (by have := B1.out.lt; have := BX.lt; have := BY.lt; omega)
    have HQ : Hid (KpAt w.heap.size (wY.alloc (.cells #[.slice none 0 0, .slice x1 n1 d1, .slice x2 n2 d2, .int .i64 fu, .int .i64 bd] 97 (0, 0))) wY.heap.size (.slice none 0 0) (.slice x1 n1 d1) (.slice x2 n2 d2) [] { m with cells := [] }) := HQ0.1
    have HI : Hid (OwnsI (wY.alloc (.cells #[.slice none 0 0, .slice x1 n1 d1, .slice x2 n2 d2, .int .i64 fu, .int .i64 bd] 97 (0, 0))) w.heap.size (.slice x1 n1 d1) m.input) := HQ0.2
    have B2 : Hid (Box w (.cells #[.slice s0 N0 k0, .slice s1 N1 k1, .slice s2 N2 k2, .int .i64 fu, .int .i64 bd] 27 (0, 0)) (wY.alloc (.cells #[.slice none 0 0, .slice x1 n1 d1, .slice x2 n2 d2, .int .i64 fu, .int .i64 bd] 97 (0, 0)))) := BY.alloc _
    clear HQ0
    generalize (wY.alloc (.cells #[.slice none 0 0, .slice x1 n1 d1, .slice x2 n2 d2, .int .i64 fu, .int .i64 bd] 97 (0, 0))) = W2 at HQ HI B2 ⊢
    generalize wY.heap.size = p at HQ HI ⊢
    clear kd kda kX kXa kY kYa kYs kYb kYc BX BY ho1 ho2 hb1 hb2 B1 a0 a1 a2 a3 a4 c1 c2

    have q0 : W2.cell? ⟨w.heap.size, 0, none⟩ = some (.slice s0 N0 k0) := B2.out.cell 0
    go_wp2_with fail
    go_at_call 92
    refine Calls.mono (c0.out _ B2.out.below) ?_
    rintro e w3 ⟨x0, n0, d0, rfl, ho0, hb⟩
    have Q3 : Hid (KpAt w.heap.size w3 p (.slice none 0 0) (.slice x1 n1 d1) (.slice x2 n2 d2) [] { m with cells := [] } ∧ OwnsI w3 w.heap.size (.slice x1 n1 d1) m.input) := ⟨HQ.out.below hb, OwnsR.below HI.out hb⟩
    have O3 : Hid (OwnsR ceC 2 w3 W2.heap.size 82 (.slice x0 n0 d0) m.cells) := ho0
    have F3 : Hid ((∀ g ∈ fpOf (.slice x1 n1 d1), g < W2.heap.size) ∧ ∀ g ∈ fpOf (.slice x2 n2 d2), g < W2.heap.size) := ⟨fun g hg => (HQ.out.input.lt g hg).2, fun g hg => (OwnsR.lt HQ.out.out g hg).2⟩
    have Z3 : Hid (Below w.heap.size w w3 ∧ p < W2.heap.size ∧ W2.heap.size ≤ w3.heap.size) := ⟨B2.out.below.trans (hb.mono B2.out.below.size), HQ.out.lt, hb.size⟩
    have hn0 : n0 = m.cells.length := by
      rcases OwnsR.form ho0 with ⟨e, e'⟩ | ⟨g', c', e, _⟩
      · injection e with _ e2 _; rw [e2, e']; rfl
      · injection e
    have hn1 : n0 ≤ 1048576 := by omega
    obtain ⟨b0, HX0⟩ : ∃ b0, Hid (0 < n0 → x0 = some ⟨b0, 0, none⟩ ∧ W2.heap.size ≤ b0 ∧ b0 < w3.heap.size) := by
      rcases OwnsR.form ho0 with ⟨e, e'⟩ | ⟨g', c', e, _⟩
      · exact ⟨0, fun h => by rw [hn0, e'] at h; simp at h⟩
      · injection e with e1 _ _
        exact ⟨g', fun _ => ⟨e1, OwnsR.lt ho0 g' (by rw [e1]; simp [fpOf, Value.ownBlock])⟩⟩
    have HN0 : Hid (n0 = m.cells.length) := hn0
    clear hb ho0 hn0 HQ HI B2 q0 c0
    go_wp2
    go_loopw [22] (fun i wr => ∃ (k : Nat) (a : Option Addr) (n c : Nat), k ≤ n0 ∧ i = .int .i64 (k : Int) ∧ Hid (wr.heap[p]? = some (.cells #[.slice a n c, .slice x1 n1 d1, .slice x2 n2 d2, .int .i64 fu, .int .i64 bd] 97 (0, 0))) ∧ Hid (OwnsR ptC 1 wr w3.heap.size 99 (.slice a n c) ((List.range k).map (fun j => (b0, j * 2)))) ∧ Hid (Rim p (p + 1) w3 wr))
      (fun i _ => n0 - (intOf i).toNat)
    case atStart =>
      refine ⟨0, none, 0, 0, Nat.zero_le _, rfl, ?_, ownsR_nil _ _ _ _ _, Rim.refl _ _ _⟩
      have := Q3.out.1.blk
      simp only [hfu.out, hbd.out] at this
      exact this
    case round =>
      obtain ⟨k, a, n, c, hk, rfl, HBk, HOk, HRk⟩ := hrel
      by_cases hlt : k < n0
      · obtain ⟨rfl, hb0, hb1⟩ := HX0.out (by omega)
        have hk0 : (0 : Int) ≤ (k : Int) := by omega
        have hk1 : (k : Int) < (n0 : Int) := by omega
        have hkl : ((List.range k).map (fun j => (b0, j * 2))).length ≤ 10000000 := by simp; omega
        have y0 : wr.cell? ⟨p, 0, none⟩ = some (.slice a n c) := cell_at HBk.out 0
        have yd : wr.drew.cell? ⟨p, 0, none⟩ = some (.slice a n c) := y0
        have hpw : p < wr.heap.size := by have := HRk.out.size; have := Z3.out; omega
        have HOn : Hid (OwnsR ptC 1 (wr.alloc (.cells #[.pointer (some ⟨b0, k * 2, none⟩)] 99)).drew w3.heap.size 99 (.slice a n c) ((List.range k).map (fun j => (b0, j * 2)))) := OwnsR.below HOk.out (by go_grown)
        have HAl : Hid ((wr.alloc (.cells #[.pointer (some ⟨b0, k * 2, none⟩)] 99)).drew.heap[wr.heap.size]? = some (.cells #[.pointer (some ⟨b0, k * 2, none⟩)] 99 (0, 0))) := heap_alloc_new _ _
        have HXp : Hid ((wr.alloc (.cells #[.pointer (some ⟨b0, k * 2, none⟩)] 99)).drew.heap[p]? = some (.cells #[.slice a n c, .slice x1 n1 d1, .slice x2 n2 d2, .int .i64 fu, .int .i64 bd] 97 (0, 0))) := (Below.heap_alloc _ _ _ hpw).trans HBk.out
        have hw3 : w3.heap.size ≤ wr.heap.size := HRk.out.size
        have hBz : w3.heap.size ≤ (wr.alloc (.cells #[.pointer (some ⟨b0, k * 2, none⟩)] 99)).drew.heap.size := by show w3.heap.size ≤ (wr.alloc (.cells #[.pointer (some ⟨b0, k * 2, none⟩)] 99)).heap.size; simp; omega
        have hpz : p < (wr.alloc (.cells #[.pointer (some ⟨b0, k * 2, none⟩)] 99)).drew.heap.size := by show p < (wr.alloc (.cells #[.pointer (some ⟨b0, k * 2, none⟩)] 99)).heap.size; simp; omega
        have HNv : Hid (some p ≠ (Value.slice a n c).ownBlock) := fun e => by have h3 := (OwnsR.lt HOk.out p (by unfold fpOf; rw [← e]; simp)).1; have := Z3.out; omega
        go_wp2_with fail
        go_region_law (refine step_appendRA ptC_len rfl _ _ 95 rfl w3.heap.size 99 _ 8 Try.underlying95 Try.infoPt rfl (by decide) HOn.out (b0, k * 2) (ptC_one [(b0, k * 2)] _ (by simp)) wr.heap.size (0, 0) HAl.out rfl rfl hkl (by omega) hBz ?_; intro v5 w5 hown5 hg5 hat5 hv5; obtain ⟨g5, cap5, rfl⟩ := hv5; have hX5 := (hg5.block p hpz HNv.out).trans HXp.out; have z0 := cell_at hX5 0; have fz0 := free_at hX5 0; simp at z0)
        all_goals
          have HB6 : Hid ((w5.setCell ⟨p, 0, none⟩ (.slice (some ⟨g5, 0, none⟩) (((List.range k).map (fun j => (b0, j * 2))).length + 1) cap5)).heap[p]? = some (.cells #[.slice (some ⟨g5, 0, none⟩) (((List.range k).map (fun j => (b0, j * 2))).length + 1) cap5, .slice x1 n1 d1, .slice x2 n2 d2, .int .i64 fu, .int .i64 bd] 97 (0, 0))) := heap_set hX5
          have HO6 : Hid (OwnsR ptC 1 (w5.setCell ⟨p, 0, none⟩ (.slice (some ⟨g5, 0, none⟩) (((List.range k).map (fun j => (b0, j * 2))).length + 1) cap5)) w3.heap.size 99 (.slice (some ⟨g5, 0, none⟩) (((List.range k).map (fun j => (b0, j * 2))).length + 1) cap5) ((List.range (k + 1)).map (fun j => (b0, j * 2)))) := by
            show OwnsR _ _ _ _ _ _ _
            rw [List.range_succ, List.map_append]
            exact OwnsR.same hown5 (fun g hg => kept_set (by have h3 := (OwnsR.lt hown5 g hg).1; have := Z3.out; omega))
          have HR6 : Hid (Rim p (p + 1) w3 (w5.setCell ⟨p, 0, none⟩ (.slice (some ⟨g5, 0, none⟩) (((List.range k).map (fun j => (b0, j * 2))).length + 1) cap5))) := by
            have h4 : wr.heap.size + 1 = (wr.alloc (.cells #[.pointer (some ⟨b0, k * 2, none⟩)] 99)).drew.heap.size := by show _ = (wr.alloc (.cells #[.pointer (some ⟨b0, k * 2, none⟩)] 99)).heap.size; simp
            have h5 := hg5.size
            refine ⟨hg5.os.trans HRk.out.os, hg5.tape.trans HRk.out.tape, hg5.output.trans HRk.out.output, ?_, fun g hg hn => ?_⟩
            · simp only [World.setCell, Array.size_modify]
              omega
            · rw [kept_set (by omega)]
              have h6 : some g ≠ (Value.slice a n c).ownBlock := fun e => by have h3 := (OwnsR.lt HOk.out g (by unfold fpOf; rw [← e]; simp)).1; omega
              exact (hg5.block g (by omega) h6).trans ((Below.heap_alloc _ _ g (by omega)).trans (HRk.out.block g hg hn))
          clear hown5 hg5 hat5 hX5 z0 fz0 HOn HAl HXp HNv HBk HOk y0 yd
          rw [List.length_map, List.length_range] at HB6 HO6 HR6
          go_wp2
          go_roundw
          case rel => exact ⟨k + 1, _, _, _, by omega, by go_num, HB6, HO6, HR6⟩
          case measure => simp [intOf]; omega
      · have hkn : k = n0 := by omega
        subst hkn
        have HD := kp_done Q3.out.1 Q3.out.2 O3.out Z3.out.2.1 Z3.out.2.2 F3.out.1 F3.out.2 HN0.out HX0.out (by rw [hfu.out, hbd.out]; exact HBk.out) HOk.out HRk.out
        have HD1 : Hid _ := HD
        have HBl : Hid (Below w.heap.size w wr) := Z3.out.1.trans ⟨HRk.out.os, HRk.out.tape, HRk.out.output, HRk.out.size, fun g hg => HRk.out.block g (by have := Z3.out.1.size; omega) (.inl (by have := Q3.out.1.low; omega))⟩
        clear HD Q3 O3 Z3 F3 HX0 HN0 HBk HOk HRk
        go_wp2
        go_returns
        exact ⟨_, _, _, _, _, _, _, _, _, _, _, rfl, HD1.out.1, HD1.out.2, HBl.out⟩
  · have HQ0 := kp_start (K := w.heap.size) (p := wX.heap.size) (W0 := wY) (W2 := (((((wY.setCell ⟨wX.heap.size, 0, none⟩ (.slice none 0 0)).setCell ⟨wX.heap.size, 1, none⟩ (.slice x1 n1 d1)).setCell ⟨wX.heap.size, 2, none⟩ (.slice x2 n2 d2)).setCell ⟨wX.heap.size, 3, none⟩ (.int .i64 fu)).setCell ⟨wX.heap.size, 4, none⟩ (.int .i64 bd))) (v1 := .slice x1 n1 d1) (v2 := .slice x2 n2 d2) (m := m) (by rw [hfu.out, hbd.out]; exact (heap_set (heap_set (heap_set (heap_set (heap_set zb)))))) (OwnsR.base (OwnsR.below ho1 (((Below.refl wX.heap.size wX).alloc (Nat.le_refl _) (.cells #[.slice none 0 0, .slice none 0 0, .slice none 0 0, .int .i64 0, .int .i64 0] 97 (0, 0))).trans (hb2.mono (by simp)))) (fun g hg => by have h3 := (OwnsR.lt ho1 g hg).1; have h4 := B1.out.lt; (try simp at h3); omega)) (OwnsR.base ho2 (fun g hg => by have h3 := (OwnsR.lt ho2 g hg).1; have h4 := BX.lt; (try simp at h3); omega)) (fun g hn _ => by simp only [kept_set hn]) (fun g hg hg' => by have h3 := (OwnsR.lt ho1 g hg).2; have h4 := (OwnsR.lt ho2 g hg').1; (try simp at h4); omega) (fun hm => by have h3 := (OwnsR.lt ho1 _ hm).2; omega) (fun hm => by have h3 := (OwnsR.lt ho2 _ hm).1; simp at h3; omega) (by have := B1.out.lt; have := BX.lt; have := BY.lt; omega)
    have HQ : Hid (KpAt w.heap.size (((((wY.setCell ⟨wX.heap.size, 0, none⟩ (.slice none 0 0)).setCell ⟨wX.heap.size, 1, none⟩ (.slice x1 n1 d1)).setCell ⟨wX.heap.size, 2, none⟩ (.slice x2 n2 d2)).setCell ⟨wX.heap.size, 3, none⟩ (.int .i64 fu)).setCell ⟨wX.heap.size, 4, none⟩ (.int .i64 bd)) wX.heap.size (.slice none 0 0) (.slice x1 n1 d1) (.slice x2 n2 d2) [] { m with cells := [] }) := HQ0.1
    have HI : Hid (OwnsI (((((wY.setCell ⟨wX.heap.size, 0, none⟩ (.slice none 0 0)).setCell ⟨wX.heap.size, 1, none⟩ (.slice x1 n1 d1)).setCell ⟨wX.heap.size, 2, none⟩ (.slice x2 n2 d2)).setCell ⟨wX.heap.size, 3, none⟩ (.int .i64 fu)).setCell ⟨wX.heap.size, 4, none⟩ (.int .i64 bd)) w.heap.size (.slice x1 n1 d1) m.input) := HQ0.2
    have B2 : Hid (Box w (.cells #[.slice s0 N0 k0, .slice s1 N1 k1, .slice s2 N2 k2, .int .i64 fu, .int .i64 bd] 27 (0, 0)) (((((wY.setCell ⟨wX.heap.size, 0, none⟩ (.slice none 0 0)).setCell ⟨wX.heap.size, 1, none⟩ (.slice x1 n1 d1)).setCell ⟨wX.heap.size, 2, none⟩ (.slice x2 n2 d2)).setCell ⟨wX.heap.size, 3, none⟩ (.int .i64 fu)).setCell ⟨wX.heap.size, 4, none⟩ (.int .i64 bd))) := ((((((((((BY).setCell (j := 0) BX.lt (.slice none 0 0))).setCell (j := 1) BX.lt (.slice x1 n1 d1))).setCell (j := 2) BX.lt (.slice x2 n2 d2))).setCell (j := 3) BX.lt (.int .i64 fu))).setCell (j := 4) BX.lt (.int .i64 bd))
    clear HQ0
    generalize (((((wY.setCell ⟨wX.heap.size, 0, none⟩ (.slice none 0 0)).setCell ⟨wX.heap.size, 1, none⟩ (.slice x1 n1 d1)).setCell ⟨wX.heap.size, 2, none⟩ (.slice x2 n2 d2)).setCell ⟨wX.heap.size, 3, none⟩ (.int .i64 fu)).setCell ⟨wX.heap.size, 4, none⟩ (.int .i64 bd)) = W2 at HQ HI B2 ⊢
    generalize wX.heap.size = p at HQ HI ⊢
    clear kd kda kX kXa kY kYa kYs kYb kYc BX BY ho1 ho2 hb1 hb2 B1 a0 a1 a2 a3 a4 c1 c2

    have q0 : W2.cell? ⟨w.heap.size, 0, none⟩ = some (.slice s0 N0 k0) := B2.out.cell 0
    go_wp2_with fail
    go_at_call 92
    refine Calls.mono (c0.out _ B2.out.below) ?_
    rintro e w3 ⟨x0, n0, d0, rfl, ho0, hb⟩
    have Q3 : Hid (KpAt w.heap.size w3 p (.slice none 0 0) (.slice x1 n1 d1) (.slice x2 n2 d2) [] { m with cells := [] } ∧ OwnsI w3 w.heap.size (.slice x1 n1 d1) m.input) := ⟨HQ.out.below hb, OwnsR.below HI.out hb⟩
    have O3 : Hid (OwnsR ceC 2 w3 W2.heap.size 82 (.slice x0 n0 d0) m.cells) := ho0
    have F3 : Hid ((∀ g ∈ fpOf (.slice x1 n1 d1), g < W2.heap.size) ∧ ∀ g ∈ fpOf (.slice x2 n2 d2), g < W2.heap.size) := ⟨fun g hg => (HQ.out.input.lt g hg).2, fun g hg => (OwnsR.lt HQ.out.out g hg).2⟩
    have Z3 : Hid (Below w.heap.size w w3 ∧ p < W2.heap.size ∧ W2.heap.size ≤ w3.heap.size) := ⟨B2.out.below.trans (hb.mono B2.out.below.size), HQ.out.lt, hb.size⟩
    have hn0 : n0 = m.cells.length := by
      rcases OwnsR.form ho0 with ⟨e, e'⟩ | ⟨g', c', e, _⟩
      · injection e with _ e2 _; rw [e2, e']; rfl
      · injection e
    have hn1 : n0 ≤ 1048576 := by omega
    obtain ⟨b0, HX0⟩ : ∃ b0, Hid (0 < n0 → x0 = some ⟨b0, 0, none⟩ ∧ W2.heap.size ≤ b0 ∧ b0 < w3.heap.size) := by
      rcases OwnsR.form ho0 with ⟨e, e'⟩ | ⟨g', c', e, _⟩
      · exact ⟨0, fun h => by rw [hn0, e'] at h; simp at h⟩
      · injection e with e1 _ _
        exact ⟨g', fun _ => ⟨e1, OwnsR.lt ho0 g' (by rw [e1]; simp [fpOf, Value.ownBlock])⟩⟩
    have HN0 : Hid (n0 = m.cells.length) := hn0
    clear hb ho0 hn0 HQ HI B2 q0 c0
    go_wp2
    go_loopw [22] (fun i wr => ∃ (k : Nat) (a : Option Addr) (n c : Nat), k ≤ n0 ∧ i = .int .i64 (k : Int) ∧ Hid (wr.heap[p]? = some (.cells #[.slice a n c, .slice x1 n1 d1, .slice x2 n2 d2, .int .i64 fu, .int .i64 bd] 97 (0, 0))) ∧ Hid (OwnsR ptC 1 wr w3.heap.size 99 (.slice a n c) ((List.range k).map (fun j => (b0, j * 2)))) ∧ Hid (Rim p (p + 1) w3 wr))
      (fun i _ => n0 - (intOf i).toNat)
    case atStart =>
      refine ⟨0, none, 0, 0, Nat.zero_le _, rfl, ?_, ownsR_nil _ _ _ _ _, Rim.refl _ _ _⟩
      have := Q3.out.1.blk
      simp only [hfu.out, hbd.out] at this
      exact this
    case round =>
      obtain ⟨k, a, n, c, hk, rfl, HBk, HOk, HRk⟩ := hrel
      by_cases hlt : k < n0
      · obtain ⟨rfl, hb0, hb1⟩ := HX0.out (by omega)
        have hk0 : (0 : Int) ≤ (k : Int) := by omega
        have hk1 : (k : Int) < (n0 : Int) := by omega
        have hkl : ((List.range k).map (fun j => (b0, j * 2))).length ≤ 10000000 := by simp; omega
        have y0 : wr.cell? ⟨p, 0, none⟩ = some (.slice a n c) := cell_at HBk.out 0
        have yd : wr.drew.cell? ⟨p, 0, none⟩ = some (.slice a n c) := y0
        have hpw : p < wr.heap.size := by have := HRk.out.size; have := Z3.out; omega
        have HOn : Hid (OwnsR ptC 1 (wr.alloc (.cells #[.pointer (some ⟨b0, k * 2, none⟩)] 99)).drew w3.heap.size 99 (.slice a n c) ((List.range k).map (fun j => (b0, j * 2)))) := OwnsR.below HOk.out (by go_grown)
        have HAl : Hid ((wr.alloc (.cells #[.pointer (some ⟨b0, k * 2, none⟩)] 99)).drew.heap[wr.heap.size]? = some (.cells #[.pointer (some ⟨b0, k * 2, none⟩)] 99 (0, 0))) := heap_alloc_new _ _
        have HXp : Hid ((wr.alloc (.cells #[.pointer (some ⟨b0, k * 2, none⟩)] 99)).drew.heap[p]? = some (.cells #[.slice a n c, .slice x1 n1 d1, .slice x2 n2 d2, .int .i64 fu, .int .i64 bd] 97 (0, 0))) := (Below.heap_alloc _ _ _ hpw).trans HBk.out
        have hw3 : w3.heap.size ≤ wr.heap.size := HRk.out.size
        have hBz : w3.heap.size ≤ (wr.alloc (.cells #[.pointer (some ⟨b0, k * 2, none⟩)] 99)).drew.heap.size := by show w3.heap.size ≤ (wr.alloc (.cells #[.pointer (some ⟨b0, k * 2, none⟩)] 99)).heap.size; simp; omega
        have hpz : p < (wr.alloc (.cells #[.pointer (some ⟨b0, k * 2, none⟩)] 99)).drew.heap.size := by show p < (wr.alloc (.cells #[.pointer (some ⟨b0, k * 2, none⟩)] 99)).heap.size; simp; omega
        have HNv : Hid (some p ≠ (Value.slice a n c).ownBlock) := fun e => by have h3 := (OwnsR.lt HOk.out p (by unfold fpOf; rw [← e]; simp)).1; have := Z3.out; omega
        go_wp2_with fail
        go_region_law (refine step_appendRA ptC_len rfl _ _ 95 rfl w3.heap.size 99 _ 8 Try.underlying95 Try.infoPt rfl (by decide) HOn.out (b0, k * 2) (ptC_one [(b0, k * 2)] _ (by simp)) wr.heap.size (0, 0) HAl.out rfl rfl hkl (by omega) hBz ?_; intro v5 w5 hown5 hg5 hat5 hv5; obtain ⟨g5, cap5, rfl⟩ := hv5; have hX5 := (hg5.block p hpz HNv.out).trans HXp.out; have z0 := cell_at hX5 0; have fz0 := free_at hX5 0; simp at z0)
        all_goals
          have HB6 : Hid ((w5.setCell ⟨p, 0, none⟩ (.slice (some ⟨g5, 0, none⟩) (((List.range k).map (fun j => (b0, j * 2))).length + 1) cap5)).heap[p]? = some (.cells #[.slice (some ⟨g5, 0, none⟩) (((List.range k).map (fun j => (b0, j * 2))).length + 1) cap5, .slice x1 n1 d1, .slice x2 n2 d2, .int .i64 fu, .int .i64 bd] 97 (0, 0))) := heap_set hX5
          have HO6 : Hid (OwnsR ptC 1 (w5.setCell ⟨p, 0, none⟩ (.slice (some ⟨g5, 0, none⟩) (((List.range k).map (fun j => (b0, j * 2))).length + 1) cap5)) w3.heap.size 99 (.slice (some ⟨g5, 0, none⟩) (((List.range k).map (fun j => (b0, j * 2))).length + 1) cap5) ((List.range (k + 1)).map (fun j => (b0, j * 2)))) := by
            show OwnsR _ _ _ _ _ _ _
            rw [List.range_succ, List.map_append]
            exact OwnsR.same hown5 (fun g hg => kept_set (by have h3 := (OwnsR.lt hown5 g hg).1; have := Z3.out; omega))
          have HR6 : Hid (Rim p (p + 1) w3 (w5.setCell ⟨p, 0, none⟩ (.slice (some ⟨g5, 0, none⟩) (((List.range k).map (fun j => (b0, j * 2))).length + 1) cap5))) := by
            have h4 : wr.heap.size + 1 = (wr.alloc (.cells #[.pointer (some ⟨b0, k * 2, none⟩)] 99)).drew.heap.size := by show _ = (wr.alloc (.cells #[.pointer (some ⟨b0, k * 2, none⟩)] 99)).heap.size; simp
            have h5 := hg5.size
            refine ⟨hg5.os.trans HRk.out.os, hg5.tape.trans HRk.out.tape, hg5.output.trans HRk.out.output, ?_, fun g hg hn => ?_⟩
            · simp only [World.setCell, Array.size_modify]
              omega
            · rw [kept_set (by omega)]
              have h6 : some g ≠ (Value.slice a n c).ownBlock := fun e => by have h3 := (OwnsR.lt HOk.out g (by unfold fpOf; rw [← e]; simp)).1; omega
              exact (hg5.block g (by omega) h6).trans ((Below.heap_alloc _ _ g (by omega)).trans (HRk.out.block g hg hn))
          clear hown5 hg5 hat5 hX5 z0 fz0 HOn HAl HXp HNv HBk HOk y0 yd
          rw [List.length_map, List.length_range] at HB6 HO6 HR6
          go_wp2
          go_roundw
          case rel => exact ⟨k + 1, _, _, _, by omega, by go_num, HB6, HO6, HR6⟩
          case measure => simp [intOf]; omega
      · have hkn : k = n0 := by omega
        subst hkn
        have HD := kp_done Q3.out.1 Q3.out.2 O3.out Z3.out.2.1 Z3.out.2.2 F3.out.1 F3.out.2 HN0.out HX0.out (by rw [hfu.out, hbd.out]; exact HBk.out) HOk.out HRk.out
        have HD1 : Hid _ := HD
        have HBl : Hid (Below w.heap.size w wr) := Z3.out.1.trans ⟨HRk.out.os, HRk.out.tape, HRk.out.output, HRk.out.size, fun g hg => HRk.out.block g (by have := Z3.out.1.size; omega) (.inl (by have := Q3.out.1.low; omega))⟩
        clear HD Q3 O3 Z3 F3 HX0 HN0 HBk HOk HRk
        go_wp2
        go_returns
        exact ⟨_, _, _, _, _, _, _, _, _, _, _, rfl, HD1.out.1, HD1.out.2, HBl.out⟩
  · have HQ0 := kp_start (K := w.heap.size) (p := W1.heap.size) (W0 := wY) (W2 := (((((wY.setCell ⟨W1.heap.size, 0, none⟩ (.slice none 0 0)).setCell ⟨W1.heap.size, 1, none⟩ (.slice x1 n1 d1)).setCell ⟨W1.heap.size, 2, none⟩ (.slice x2 n2 d2)).setCell ⟨W1.heap.size, 3, none⟩ (.int .i64 fu)).setCell ⟨W1.heap.size, 4, none⟩ (.int .i64 bd))) (v1 := .slice x1 n1 d1) (v2 := .slice x2 n2 d2) (m := m) (by rw [hfu.out, hbd.out]; exact (heap_set (heap_set (heap_set (heap_set (heap_set zd)))))) (OwnsR.base (OwnsR.below ho1 hb2) (fun g hg => by have h3 := (OwnsR.lt ho1 g hg).1; have h4 := B1.out.lt; (try simp at h3); omega)) (OwnsR.base ho2 (fun g hg => by have h3 := (OwnsR.lt ho2 g hg).1; have h4 := BX.lt; (try simp at h3); omega)) (fun g hn _ => by simp only [kept_set hn]) (fun g hg hg' => by have h3 := (OwnsR.lt ho1 g hg).2; have h4 := (OwnsR.lt ho2 g hg').1; (try simp at h4); omega) (fun hm => by have h3 := (OwnsR.lt ho1 _ hm).1; simp at h3; omega) (fun hm => by have h3 := (OwnsR.lt ho2 _ hm).1; have h4 := hb1.size; simp at h4; omega) (by have := B1.out.lt; have := BX.lt; have := BY.lt; omega)
    have HQ : Hid (KpAt w.heap.size (((((wY.setCell ⟨W1.heap.size, 0, none⟩ (.slice none 0 0)).setCell ⟨W1.heap.size, 1, none⟩ (.slice x1 n1 d1)).setCell ⟨W1.heap.size, 2, none⟩ (.slice x2 n2 d2)).setCell ⟨W1.heap.size, 3, none⟩ (.int .i64 fu)).setCell ⟨W1.heap.size, 4, none⟩ (.int .i64 bd)) W1.heap.size (.slice none 0 0) (.slice x1 n1 d1) (.slice x2 n2 d2) [] { m with cells := [] }) := HQ0.1
    have HI : Hid (OwnsI (((((wY.setCell ⟨W1.heap.size, 0, none⟩ (.slice none 0 0)).setCell ⟨W1.heap.size, 1, none⟩ (.slice x1 n1 d1)).setCell ⟨W1.heap.size, 2, none⟩ (.slice x2 n2 d2)).setCell ⟨W1.heap.size, 3, none⟩ (.int .i64 fu)).setCell ⟨W1.heap.size, 4, none⟩ (.int .i64 bd)) w.heap.size (.slice x1 n1 d1) m.input) := HQ0.2
    have B2 : Hid (Box w (.cells #[.slice s0 N0 k0, .slice s1 N1 k1, .slice s2 N2 k2, .int .i64 fu, .int .i64 bd] 27 (0, 0)) (((((wY.setCell ⟨W1.heap.size, 0, none⟩ (.slice none 0 0)).setCell ⟨W1.heap.size, 1, none⟩ (.slice x1 n1 d1)).setCell ⟨W1.heap.size, 2, none⟩ (.slice x2 n2 d2)).setCell ⟨W1.heap.size, 3, none⟩ (.int .i64 fu)).setCell ⟨W1.heap.size, 4, none⟩ (.int .i64 bd))) := ((((((((((BY).setCell (j := 0) B1.out.lt (.slice none 0 0))).setCell (j := 1) B1.out.lt (.slice x1 n1 d1))).setCell (j := 2) B1.out.lt (.slice x2 n2 d2))).setCell (j := 3) B1.out.lt (.int .i64 fu))).setCell (j := 4) B1.out.lt (.int .i64 bd))
    clear HQ0
    generalize (((((wY.setCell ⟨W1.heap.size, 0, none⟩ (.slice none 0 0)).setCell ⟨W1.heap.size, 1, none⟩ (.slice x1 n1 d1)).setCell ⟨W1.heap.size, 2, none⟩ (.slice x2 n2 d2)).setCell ⟨W1.heap.size, 3, none⟩ (.int .i64 fu)).setCell ⟨W1.heap.size, 4, none⟩ (.int .i64 bd)) = W2 at HQ HI B2 ⊢
    generalize W1.heap.size = p at HQ HI ⊢
    clear kd kda kX kXa kY kYa kYs kYb kYc BX BY ho1 ho2 hb1 hb2 B1 a0 a1 a2 a3 a4 c1 c2

    have q0 : W2.cell? ⟨w.heap.size, 0, none⟩ = some (.slice s0 N0 k0) := B2.out.cell 0
    go_wp2_with fail
    go_at_call 92
    refine Calls.mono (c0.out _ B2.out.below) ?_
    rintro e w3 ⟨x0, n0, d0, rfl, ho0, hb⟩
    have Q3 : Hid (KpAt w.heap.size w3 p (.slice none 0 0) (.slice x1 n1 d1) (.slice x2 n2 d2) [] { m with cells := [] } ∧ OwnsI w3 w.heap.size (.slice x1 n1 d1) m.input) := ⟨HQ.out.below hb, OwnsR.below HI.out hb⟩
    have O3 : Hid (OwnsR ceC 2 w3 W2.heap.size 82 (.slice x0 n0 d0) m.cells) := ho0
    have F3 : Hid ((∀ g ∈ fpOf (.slice x1 n1 d1), g < W2.heap.size) ∧ ∀ g ∈ fpOf (.slice x2 n2 d2), g < W2.heap.size) := ⟨fun g hg => (HQ.out.input.lt g hg).2, fun g hg => (OwnsR.lt HQ.out.out g hg).2⟩
    have Z3 : Hid (Below w.heap.size w w3 ∧ p < W2.heap.size ∧ W2.heap.size ≤ w3.heap.size) := ⟨B2.out.below.trans (hb.mono B2.out.below.size), HQ.out.lt, hb.size⟩
    have hn0 : n0 = m.cells.length := by
      rcases OwnsR.form ho0 with ⟨e, e'⟩ | ⟨g', c', e, _⟩
      · injection e with _ e2 _; rw [e2, e']; rfl
      · injection e
    have hn1 : n0 ≤ 1048576 := by omega
    obtain ⟨b0, HX0⟩ : ∃ b0, Hid (0 < n0 → x0 = some ⟨b0, 0, none⟩ ∧ W2.heap.size ≤ b0 ∧ b0 < w3.heap.size) := by
      rcases OwnsR.form ho0 with ⟨e, e'⟩ | ⟨g', c', e, _⟩
      · exact ⟨0, fun h => by rw [hn0, e'] at h; simp at h⟩
      · injection e with e1 _ _
        exact ⟨g', fun _ => ⟨e1, OwnsR.lt ho0 g' (by rw [e1]; simp [fpOf, Value.ownBlock])⟩⟩
    have HN0 : Hid (n0 = m.cells.length) := hn0
    clear hb ho0 hn0 HQ HI B2 q0 c0
    go_wp2
    go_loopw [22] (fun i wr => ∃ (k : Nat) (a : Option Addr) (n c : Nat), k ≤ n0 ∧ i = .int .i64 (k : Int) ∧ Hid (wr.heap[p]? = some (.cells #[.slice a n c, .slice x1 n1 d1, .slice x2 n2 d2, .int .i64 fu, .int .i64 bd] 97 (0, 0))) ∧ Hid (OwnsR ptC 1 wr w3.heap.size 99 (.slice a n c) ((List.range k).map (fun j => (b0, j * 2)))) ∧ Hid (Rim p (p + 1) w3 wr))
      (fun i _ => n0 - (intOf i).toNat)
    case atStart =>
      refine ⟨0, none, 0, 0, Nat.zero_le _, rfl, ?_, ownsR_nil _ _ _ _ _, Rim.refl _ _ _⟩
      have := Q3.out.1.blk
      simp only [hfu.out, hbd.out] at this
      exact this
    case round =>
      obtain ⟨k, a, n, c, hk, rfl, HBk, HOk, HRk⟩ := hrel
      by_cases hlt : k < n0
      · obtain ⟨rfl, hb0, hb1⟩ := HX0.out (by omega)
        have hk0 : (0 : Int) ≤ (k : Int) := by omega
        have hk1 : (k : Int) < (n0 : Int) := by omega
        have hkl : ((List.range k).map (fun j => (b0, j * 2))).length ≤ 10000000 := by simp; omega
        have y0 : wr.cell? ⟨p, 0, none⟩ = some (.slice a n c) := cell_at HBk.out 0
        have yd : wr.drew.cell? ⟨p, 0, none⟩ = some (.slice a n c) := y0
        have hpw : p < wr.heap.size := by have := HRk.out.size; have := Z3.out; omega
        have HOn : Hid (OwnsR ptC 1 (wr.alloc (.cells #[.pointer (some ⟨b0, k * 2, none⟩)] 99)).drew w3.heap.size 99 (.slice a n c) ((List.range k).map (fun j => (b0, j * 2)))) := OwnsR.below HOk.out (by go_grown)
        have HAl : Hid ((wr.alloc (.cells #[.pointer (some ⟨b0, k * 2, none⟩)] 99)).drew.heap[wr.heap.size]? = some (.cells #[.pointer (some ⟨b0, k * 2, none⟩)] 99 (0, 0))) := heap_alloc_new _ _
        have HXp : Hid ((wr.alloc (.cells #[.pointer (some ⟨b0, k * 2, none⟩)] 99)).drew.heap[p]? = some (.cells #[.slice a n c, .slice x1 n1 d1, .slice x2 n2 d2, .int .i64 fu, .int .i64 bd] 97 (0, 0))) := (Below.heap_alloc _ _ _ hpw).trans HBk.out
        have hw3 : w3.heap.size ≤ wr.heap.size := HRk.out.size
        have hBz : w3.heap.size ≤ (wr.alloc (.cells #[.pointer (some ⟨b0, k * 2, none⟩)] 99)).drew.heap.size := by show w3.heap.size ≤ (wr.alloc (.cells #[.pointer (some ⟨b0, k * 2, none⟩)] 99)).heap.size; simp; omega
        have hpz : p < (wr.alloc (.cells #[.pointer (some ⟨b0, k * 2, none⟩)] 99)).drew.heap.size := by show p < (wr.alloc (.cells #[.pointer (some ⟨b0, k * 2, none⟩)] 99)).heap.size; simp; omega
        have HNv : Hid (some p ≠ (Value.slice a n c).ownBlock) := fun e => by have h3 := (OwnsR.lt HOk.out p (by unfold fpOf; rw [← e]; simp)).1; have := Z3.out; omega
        go_wp2_with fail
        go_region_law (refine step_appendRA ptC_len rfl _ _ 95 rfl w3.heap.size 99 _ 8 Try.underlying95 Try.infoPt rfl (by decide) HOn.out (b0, k * 2) (ptC_one [(b0, k * 2)] _ (by simp)) wr.heap.size (0, 0) HAl.out rfl rfl hkl (by omega) hBz ?_; intro v5 w5 hown5 hg5 hat5 hv5; obtain ⟨g5, cap5, rfl⟩ := hv5; have hX5 := (hg5.block p hpz HNv.out).trans HXp.out; have z0 := cell_at hX5 0; have fz0 := free_at hX5 0; simp at z0)
        all_goals
          have HB6 : Hid ((w5.setCell ⟨p, 0, none⟩ (.slice (some ⟨g5, 0, none⟩) (((List.range k).map (fun j => (b0, j * 2))).length + 1) cap5)).heap[p]? = some (.cells #[.slice (some ⟨g5, 0, none⟩) (((List.range k).map (fun j => (b0, j * 2))).length + 1) cap5, .slice x1 n1 d1, .slice x2 n2 d2, .int .i64 fu, .int .i64 bd] 97 (0, 0))) := heap_set hX5
          have HO6 : Hid (OwnsR ptC 1 (w5.setCell ⟨p, 0, none⟩ (.slice (some ⟨g5, 0, none⟩) (((List.range k).map (fun j => (b0, j * 2))).length + 1) cap5)) w3.heap.size 99 (.slice (some ⟨g5, 0, none⟩) (((List.range k).map (fun j => (b0, j * 2))).length + 1) cap5) ((List.range (k + 1)).map (fun j => (b0, j * 2)))) := by
            show OwnsR _ _ _ _ _ _ _
            rw [List.range_succ, List.map_append]
            exact OwnsR.same hown5 (fun g hg => kept_set (by have h3 := (OwnsR.lt hown5 g hg).1; have := Z3.out; omega))
          have HR6 : Hid (Rim p (p + 1) w3 (w5.setCell ⟨p, 0, none⟩ (.slice (some ⟨g5, 0, none⟩) (((List.range k).map (fun j => (b0, j * 2))).length + 1) cap5))) := by
            have h4 : wr.heap.size + 1 = (wr.alloc (.cells #[.pointer (some ⟨b0, k * 2, none⟩)] 99)).drew.heap.size := by show _ = (wr.alloc (.cells #[.pointer (some ⟨b0, k * 2, none⟩)] 99)).heap.size; simp
            have h5 := hg5.size
            refine ⟨hg5.os.trans HRk.out.os, hg5.tape.trans HRk.out.tape, hg5.output.trans HRk.out.output, ?_, fun g hg hn => ?_⟩
            · simp only [World.setCell, Array.size_modify]
              omega
            · rw [kept_set (by omega)]
              have h6 : some g ≠ (Value.slice a n c).ownBlock := fun e => by have h3 := (OwnsR.lt HOk.out g (by unfold fpOf; rw [← e]; simp)).1; omega
              exact (hg5.block g (by omega) h6).trans ((Below.heap_alloc _ _ g (by omega)).trans (HRk.out.block g hg hn))
          clear hown5 hg5 hat5 hX5 z0 fz0 HOn HAl HXp HNv HBk HOk y0 yd
          rw [List.length_map, List.length_range] at HB6 HO6 HR6
          go_wp2
          go_roundw
          case rel => exact ⟨k + 1, _, _, _, by omega, by go_num, HB6, HO6, HR6⟩
          case measure => simp [intOf]; omega
      · have hkn : k = n0 := by omega
        subst hkn
        have HD := kp_done Q3.out.1 Q3.out.2 O3.out Z3.out.2.1 Z3.out.2.2 F3.out.1 F3.out.2 HN0.out HX0.out (by rw [hfu.out, hbd.out]; exact HBk.out) HOk.out HRk.out
        have HD1 : Hid _ := HD
        have HBl : Hid (Below w.heap.size w wr) := Z3.out.1.trans ⟨HRk.out.os, HRk.out.tape, HRk.out.output, HRk.out.size, fun g hg => HRk.out.block g (by have := Z3.out.1.size; omega) (.inl (by have := Q3.out.1.low; omega))⟩
        clear HD Q3 O3 Z3 F3 HX0 HN0 HBk HOk HRk
        go_wp2
        go_returns
        exact ⟨_, _, _, _, _, _, _, _, _, _, _, rfl, HD1.out.1, HD1.out.2, HBl.out⟩

end Go.Proofs.Ytabejilnpblogaa
