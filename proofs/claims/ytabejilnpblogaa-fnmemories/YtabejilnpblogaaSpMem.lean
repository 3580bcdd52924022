/-
  The model's memory: copied, and where it lies.
-/
import Derived.Test.YtabejilnpblogaaAppRow
import Derived.Test.YtabejilnpblogaaRowMem
import Derived.Test.YtabejilnpblogaaMarkMem
namespace Go.Proofs.Ytabejilnpblogaa
open Go.RowKit

theorem ceC_one (xs : List Ce) : ∀ y ∈ xs, ∀ u ∈ ceC y, u.oneCell' = true := by
  intro y _ u hu
  simp [ceC] at hu
  rcases hu with rfl | rfl <;> rfl
theorem inC_one (xs : List Int) : ∀ y ∈ xs, ∀ u ∈ inC y, u.oneCell' = true := by
  intro y _ u hu
  simp [inC] at hu
  subst hu
  rfl
theorem CeR.read1 {w : World} {B H : Nat} {v : Value} {xs : List Ce} (h : OwnsR ceC 2 w B 82 v xs) (hH : ∀ g ∈ fpOf v, g < H) : CeR.Row w H v xs :=
  ⟨xs, List.map_id _, OwnsR.read CeR.len h hH, fun _ _ => trivial⟩
theorem CeR.rowR {w : World} {B : Nat} {v : Value} {xs : List Ce} (h : CeR.Row w B v xs) : RowR ceC 2 w B v xs := by
  obtain ⟨ps, hps, h1, _⟩ := h
  have e : ps = xs := by rw [← hps]; exact (List.map_id _).symm
  subst e
  exact h1

/-- A memory that lies at a block of its own, with rows of its own. -/
structure MmAt (K : Nat) (W : World) (p : Nat) (v0 v1 v2 : Value) (m : Mm) : Prop where
  blk : W.heap[p]? = some (.cells #[v0, v1, v2, .int .i64 m.fuel, .int .i64 m.bad] 27 (0, 0))
  cells : OwnsR ceC 2 W K 82 v0 m.cells
  input : OwnsI W K v1 m.input
  out : OwnsI W K v2 m.out
  nd : (p :: fps [v0, v1, v2]).Nodup
  low : K ≤ p

theorem Trio.app {w W W' : World} {a b c : Array Value} {ta tb tc e : TypeId} (h : Trio w a b c ta tb tc W) {n : Nat} (hg : (W.alloc (.cells #[] e)).grownBy W' (some n)) (hn : n = W.heap.size) : Trio w a b c ta tb tc W' := by
  subst hn
  have h1 := h.next ((Below.refl _ _).alloc (Nat.le_refl W.heap.size) (.cells #[] e))
  have hz : (W.alloc (.cells #[] e)).heap.size = W.heap.size + 1 := by simp
  have h2 := h.lt
  have hb : ∀ g, g ≤ w.heap.size + 2 → W'.heap[g]? = (W.alloc (.cells #[] e)).heap[g]? := fun g hl => hg.block g (by omega) (by simp; omega)
  exact ⟨h1.low.grown hg (Nat.le_trans h.low.size (by omega)) (fun k hk => by cases hk; omega), by have := hg.size; omega, (hb _ (by omega)).trans h1.b0, (hb _ (by omega)).trans h1.b1, (hb _ (by omega)).trans h1.b2⟩
theorem fp_app {W : World} {v : Value} {e : TypeId} {n : Nat} (h : v.ownBlock = some n ∨ v.ownBlock = some (W.alloc (.cells #[] e)).heap.size) (hn : n = W.heap.size) : ∀ g ∈ fpOf v, W.heap.size ≤ g := by
  subst hn
  intro g hg
  unfold fpOf at hg
  have hz : (W.alloc (.cells #[] e)).heap.size = W.heap.size + 1 := by simp
  rcases h with h | h <;> rw [h] at hg <;> simp at hg <;> omega
theorem old_app {W W' : World} {s2 j : Nat} {u : Value} {e : TypeId} {n : Nat} (hg : ((W.setCell ⟨s2, j, none⟩ u).alloc (.cells #[] e)).grownBy W' (some n)) (hn' : n = W.heap.size) : ∀ g, g < W.heap.size → g ≠ s2 → W'.heap[g]? = W.heap[g]? := fun g hl hn => by
  subst hn'
  rw [hg.block g (by simp; omega) (by simp; omega), Below.heap_alloc _ _ _ (by simpa using hl), kept_set hn]

set_option maxRecDepth 100000 in
set_option maxHeartbeats 3200000 in
theorem l09Copy_any (B : Nat) (m : Mm) (a0 a1 a2 : Value) (w : World) (hB : B ≤ w.heap.size) (ha : RowMm w B a0 a1 a2 m) (hn : nilOk a0 ∧ nilOk a1 ∧ nilOk a2) (hl : szMm m ≤ 2000000) :
    Calls Try.prog 58 #[.agg #[a0, a1, a2, .int .i64 m.fuel, .int .i64 m.bad]] w fun e w' => ∃ x0 n0 c0 x1 n1 c1 x2 n2 c2, e = .returned (.agg #[.slice x0 n0 c0, .slice x1 n1 c1, .slice x2 n2 c2, .int .i64 m.fuel, .int .i64 m.bad]) ∧
      (OwnsR ceC 2 w' w.heap.size 82 (.slice x0 n0 c0) m.cells ∧ OwnsI w' w.heap.size (.slice x1 n1 c1) m.input ∧ OwnsI w' w.heap.size (.slice x2 n2 c2) m.out ∧ (fps [.slice x0 n0 c0, .slice x1 n1 c1, .slice x2 n2 c2]).Nodup) ∧ Below w.heap.size w w' := by
  have hl0 : m.cells.length ≤ 2000000 := by unfold szMm at hl; rw [szRowCe_len] at hl; omega
  have hl1 : m.input.length ≤ 2000000 := by unfold szMm at hl; omega
  have hl2 : m.out.length ≤ 2000000 := by unfold szMm at hl; omega
  obtain ⟨s0, k0, e0⟩ := ha.1.len
  obtain ⟨s1, k1, e1⟩ := ha.2.1.len
  obtain ⟨s2, k2, e2⟩ := ha.2.2.len
  obtain ⟨N0, hN0⟩ : ∃ N, Hid (m.cells.length = N) := ⟨_, (rfl : m.cells.length = _)⟩
  obtain ⟨N1, hN1⟩ : ∃ N, Hid (m.input.length = N) := ⟨_, (rfl : m.input.length = _)⟩
  obtain ⟨N2, hN2⟩ : ∃ N, Hid (m.out.length = N) := ⟨_, (rfl : m.out.length = _)⟩
  rw [hN0.out] at e0
  rw [hN1.out] at e1
  rw [hN2.out] at e2
  subst e0 e1 e2
  have HS : Hid (∀ W, Below w.heap.size w W → RowR ceC 2 W B (.slice s0 N0 k0) m.cells ∧ RowI W B (.slice s1 N1 k1) m.input ∧ RowI W B (.slice s2 N2 k2) m.out) := fun W hW => ⟨(CeR.rowR ha.1).keep (hW.mono hB), ha.2.1.keep (hW.mono hB), ha.2.2.keep (hW.mono hB)⟩
  have HN : Hid (nilOk (.slice s0 N0 k0) ∧ nilOk (.slice s1 N1 k1) ∧ nilOk (.slice s2 N2 k2)) := hn
  obtain ⟨cells, input, out, fuel, bad⟩ := m
  simp only at HS hl0 hl1 hl2 ⊢
  clear ha hn hN0 hN1 hN2 hl
  go_enter Try.func58, Try.ntmps58
  have T3 : Hid (Trio w #[.slice s0 N0 k0, .slice s1 N1 k1, .slice s2 N2 k2, .int .i64 fuel, .int .i64 bad] #[.slice none 0 0, .slice none 0 0, .slice none 0 0, .int .i64 0, .int .i64 0] #[.slice s0 N0 k0, .slice s1 N1 k1, .slice s2 N2 k2, .int .i64 fuel, .int .i64 bad] 27 27 27 (((w.alloc (.cells #[.slice s0 N0 k0, .slice s1 N1 k1, .slice s2 N2 k2, .int .i64 fuel, .int .i64 bad] 27 (0, 0))).alloc (.cells #[.slice none 0 0, .slice none 0 0, .slice none 0 0, .int .i64 0, .int .i64 0] 27 (0, 0))).alloc (.cells #[.slice s0 N0 k0, .slice s1 N1 k1, .slice s2 N2 k2, .int .i64 fuel, .int .i64 bad] 27 (0, 0)))) := Trio.first _ _ _ _ _ _ _
  have E3 : Hid (OwnsR ceC 2 ((((w.alloc (.cells #[.slice s0 N0 k0, .slice s1 N1 k1, .slice s2 N2 k2, .int .i64 fuel, .int .i64 bad] 27 (0, 0))).alloc (.cells #[.slice none 0 0, .slice none 0 0, .slice none 0 0, .int .i64 0, .int .i64 0] 27 (0, 0))).alloc (.cells #[.slice s0 N0 k0, .slice s1 N1 k1, .slice s2 N2 k2, .int .i64 fuel, .int .i64 bad] 27 (0, 0))).alloc (.cells #[] 82)) w.heap.size 82 (.slice (some ⟨w.heap.size + 1 + 1 + 1, 0, none⟩) 0 0) []) := owns_emptyAt (by have := heap_alloc_new (((w.alloc (.cells #[.slice s0 N0 k0, .slice s1 N1 k1, .slice s2 N2 k2, .int .i64 fuel, .int .i64 bad] 27 (0, 0))).alloc (.cells #[.slice none 0 0, .slice none 0 0, .slice none 0 0, .int .i64 0, .int .i64 0] 27 (0, 0))).alloc (.cells #[.slice s0 N0 k0, .slice s1 N1 k1, .slice s2 N2 k2, .int .i64 fuel, .int .i64 bad] 27 (0, 0))) (.cells #[] 82); simpa using this) (by omega)
  have S3 : Hid (RowR ceC 2 ((((w.alloc (.cells #[.slice s0 N0 k0, .slice s1 N1 k1, .slice s2 N2 k2, .int .i64 fuel, .int .i64 bad] 27 (0, 0))).alloc (.cells #[.slice none 0 0, .slice none 0 0, .slice none 0 0, .int .i64 0, .int .i64 0] 27 (0, 0))).alloc (.cells #[.slice s0 N0 k0, .slice s1 N1 k1, .slice s2 N2 k2, .int .i64 fuel, .int .i64 bad] 27 (0, 0))).alloc (.cells #[] 82)) B (.slice s0 N0 k0) cells) := (HS.out _ (T3.out.low.alloc (Nat.le_trans T3.out.low.size (Nat.le_refl _)) _)).1
  go_wp2_with (first
    | (have _z := E3
       clear _z
       at_builtin
       go_must (refine appendRow CeR.len rfl _ _ 24 rfl w.heap.size 82 _ 16 Try.underlying24 Try.infoCe rfl (by decide) E3.out cells B s0 N0 k0 S3.out HN.out.1 (ceC_one _) rfl rfl (by simp; omega) (by omega) (by simp; omega) ?_)
       intro x0 n0 c0 w4 ho hg hat
       have T4 : Hid (Trio w #[.slice s0 N0 k0, .slice s1 N1 k1, .slice s2 N2 k2, .int .i64 fuel, .int .i64 bad] #[.slice none 0 0, .slice none 0 0, .slice none 0 0, .int .i64 0, .int .i64 0] #[.slice s0 N0 k0, .slice s1 N1 k1, .slice s2 N2 k2, .int .i64 fuel, .int .i64 bad] 27 27 27 w4) := T3.out.app hg (by simp)
       have O4 : Hid (OwnsR ceC 2 w4 w.heap.size 82 (.slice x0 n0 c0) cells ∧ (∀ g ∈ fpOf (.slice x0 n0 c0), w.heap.size + 3 ≤ g ∧ g < w4.heap.size)) := ⟨ho, fun g hg' => ⟨by have := fp_app (W := (((w.alloc (.cells #[.slice s0 N0 k0, .slice s1 N1 k1, .slice s2 N2 k2, .int .i64 fuel, .int .i64 bad] 27 (0, 0))).alloc (.cells #[.slice none 0 0, .slice none 0 0, .slice none 0 0, .int .i64 0, .int .i64 0] 27 (0, 0))).alloc (.cells #[.slice s0 N0 k0, .slice s1 N1 k1, .slice s2 N2 k2, .int .i64 fuel, .int .i64 bad] 27 (0, 0)))) (e := 82) hat (by simp) g hg'; simp at this; omega, (OwnsR.lt ho g hg').2⟩⟩
       have z4 : w.heap.size + 3 ≤ w4.heap.size := by have := T4.out.lt; omega
       have l4 : w.heap.size < w4.heap.size := by omega
       clear ho hg hat T3 E3 S3
       have p4 : w4.cell? ⟨w.heap.size + 2, 0, none⟩ = some (.slice s0 N0 k0) := cell_at T4.out.b2 0
       have f4 := free_at T4.out.b2 0
       have q4 : w4.cell? ⟨w.heap.size, 1, none⟩ = some (.slice s1 N1 k1) := cell_at T4.out.b0 1
       have E4 : Hid (OwnsI ((w4.setCell ⟨w.heap.size + 2, 0, none⟩ (.slice x0 n0 c0)).alloc (.cells #[] 3)) w.heap.size (.slice (some ⟨w4.heap.size, 0, none⟩) 0 0) []) := owns_emptyAt (by have := heap_alloc_new (w4.setCell ⟨w.heap.size + 2, 0, none⟩ (.slice x0 n0 c0)) (.cells #[] 3); simpa using this) (by omega)
       have S4 : Hid (RowI ((w4.setCell ⟨w.heap.size + 2, 0, none⟩ (.slice x0 n0 c0)).alloc (.cells #[] 3)) B (.slice s1 N1 k1) input) := (HS.out _ ((T4.out.set2 0 (.slice x0 n0 c0)).low.alloc (T4.out.set2 0 (.slice x0 n0 c0)).low.size _)).2.1)
    | (have _z := E4
       clear _z
       at_builtin
       go_must (refine appendRow inC_len rfl _ _ 25 rfl w.heap.size 3 _ 8 Try.underlying25 Try.infoInt rfl (by decide) E4.out input B s1 N1 k1 S4.out HN.out.2.1 (inC_one _) rfl rfl (by simp; omega) (by omega) (by simp; omega) ?_)
       intro x1 n1 c1 w5 ho hg hat
       have T5 : Hid (Trio w #[.slice s0 N0 k0, .slice s1 N1 k1, .slice s2 N2 k2, .int .i64 fuel, .int .i64 bad] #[.slice none 0 0, .slice none 0 0, .slice none 0 0, .int .i64 0, .int .i64 0] (Array.setIfInBounds #[.slice s0 N0 k0, .slice s1 N1 k1, .slice s2 N2 k2, .int .i64 fuel, .int .i64 bad] 0 (.slice x0 n0 c0)) 27 27 27 w5) := (T4.out.set2 0 (.slice x0 n0 c0)).app hg (by simp)
       have hold := old_app hg (by simp)
       have O5 : Hid (OwnsR ceC 2 w5 w.heap.size 82 (.slice x0 n0 c0) cells ∧ OwnsI w5 w.heap.size (.slice x1 n1 c1) input ∧ (∀ g ∈ fpOf (.slice x0 n0 c0), w.heap.size + 3 ≤ g ∧ g < w4.heap.size) ∧ ∀ g ∈ fpOf (.slice x1 n1 c1), w4.heap.size ≤ g ∧ g < w5.heap.size) := ⟨OwnsR.same O4.out.1 (fun g hg' => hold g (O4.out.2 g hg').2 (by have := (O4.out.2 g hg').1; omega)), ho, O4.out.2, fun g hg' => ⟨by have := fp_app (W := (w4.setCell ⟨w.heap.size + 2, 0, none⟩ (.slice x0 n0 c0))) (e := 3) hat (by simp) g hg'; simp at this; omega, (OwnsR.lt ho g hg').2⟩⟩
       have z5 : w4.heap.size ≤ w5.heap.size := by have := hg.size; simp at this; omega
       have l5 : w.heap.size < w5.heap.size := by omega
       clear ho hg hat hold T4 O4 E4 S4 p4 f4 q4 l4
       have p5 : w5.cell? ⟨w.heap.size + 2, 1, none⟩ = some (.slice s1 N1 k1) := cell_at T5.out.b2 1
       have f5 := free_at T5.out.b2 1
       have q5 : w5.cell? ⟨w.heap.size, 2, none⟩ = some (.slice s2 N2 k2) := cell_at T5.out.b0 2
       have E5 : Hid (OwnsI ((w5.setCell ⟨w.heap.size + 2, 1, none⟩ (.slice x1 n1 c1)).alloc (.cells #[] 3)) w.heap.size (.slice (some ⟨w5.heap.size, 0, none⟩) 0 0) []) := owns_emptyAt (by have := heap_alloc_new (w5.setCell ⟨w.heap.size + 2, 1, none⟩ (.slice x1 n1 c1)) (.cells #[] 3); simpa using this) (by omega)
       have S5 : Hid (RowI ((w5.setCell ⟨w.heap.size + 2, 1, none⟩ (.slice x1 n1 c1)).alloc (.cells #[] 3)) B (.slice s2 N2 k2) out) := (HS.out _ ((T5.out.set2 1 (.slice x1 n1 c1)).low.alloc (T5.out.set2 1 (.slice x1 n1 c1)).low.size _)).2.2)
    | (have _z := E5
       clear _z
       at_builtin
       go_must (refine appendRow inC_len rfl _ _ 25 rfl w.heap.size 3 _ 8 Try.underlying25 Try.infoInt rfl (by decide) E5.out out B s2 N2 k2 S5.out HN.out.2.2 (inC_one _) rfl rfl (by simp; omega) (by omega) (by simp; omega) ?_)
       intro x2 n2 c2 w6 ho hg hat
       have T6 : Hid (Trio w #[.slice s0 N0 k0, .slice s1 N1 k1, .slice s2 N2 k2, .int .i64 fuel, .int .i64 bad] #[.slice none 0 0, .slice none 0 0, .slice none 0 0, .int .i64 0, .int .i64 0] (Array.setIfInBounds (Array.setIfInBounds #[.slice s0 N0 k0, .slice s1 N1 k1, .slice s2 N2 k2, .int .i64 fuel, .int .i64 bad] 0 (.slice x0 n0 c0)) 1 (.slice x1 n1 c1)) 27 27 27 w6) := (T5.out.set2 1 (.slice x1 n1 c1)).app hg (by simp)
       have hold := old_app hg (by simp)
       have O6 : Hid ((OwnsR ceC 2 w6 w.heap.size 82 (.slice x0 n0 c0) cells ∧ OwnsI w6 w.heap.size (.slice x1 n1 c1) input ∧ OwnsI w6 w.heap.size (.slice x2 n2 c2) out) ∧ (∀ g ∈ fpOf (.slice x0 n0 c0), w.heap.size + 3 ≤ g ∧ g < w4.heap.size) ∧ (∀ g ∈ fpOf (.slice x1 n1 c1), w4.heap.size ≤ g ∧ g < w5.heap.size) ∧ ∀ g ∈ fpOf (.slice x2 n2 c2), w5.heap.size ≤ g) := ⟨⟨OwnsR.same O5.out.1 (fun g hg' => hold g (by have := (O5.out.2.2.1 g hg'); omega) (by have := (O5.out.2.2.1 g hg').1; omega)), OwnsR.same O5.out.2.1 (fun g hg' => hold g (O5.out.2.2.2 g hg').2 (by have := (O5.out.2.2.2 g hg').1; omega)), ho⟩, O5.out.2.2.1, O5.out.2.2.2, fun g hg' => by have := fp_app (W := (w5.setCell ⟨w.heap.size + 2, 1, none⟩ (.slice x1 n1 c1))) (e := 3) hat (by simp) g hg'; simp at this; omega⟩
       have z6 : w5.heap.size ≤ w6.heap.size := by have := hg.size; simp at this; omega
       clear ho hg hat hold T5 O5 E5 S5 p5 f5 q5
       have p6 : w6.cell? ⟨w.heap.size + 2, 2, none⟩ = some (.slice s2 N2 k2) := cell_at T6.out.b2 2
       have f6 := free_at T6.out.b2 2
       have g0 : w6.cell? ⟨w.heap.size + 2, 0, none⟩ = some (.slice x0 n0 c0) := cell_at T6.out.b2 0
       have g1 : w6.cell? ⟨w.heap.size + 2, 1, none⟩ = some (.slice x1 n1 c1) := cell_at T6.out.b2 1
       have g3 : w6.cell? ⟨w.heap.size + 2, 3, none⟩ = some (.int .i64 fuel) := cell_at T6.out.b2 3
       have g4 : w6.cell? ⟨w.heap.size + 2, 4, none⟩ = some (.int .i64 bad) := cell_at T6.out.b2 4
       have r0 : w6.cell? ⟨w.heap.size + 1, 0, none⟩ = some (.slice none 0 0) := cell_at T6.out.b1 0
       have t0 := free_at T6.out.b1 0
       have r1 : w6.cell? ⟨w.heap.size + 1, 1, none⟩ = some (.slice none 0 0) := cell_at T6.out.b1 1
       have t1 := free_at T6.out.b1 1
       have r2 : w6.cell? ⟨w.heap.size + 1, 2, none⟩ = some (.slice none 0 0) := cell_at T6.out.b1 2
       have t2 := free_at T6.out.b1 2
       have r3 : w6.cell? ⟨w.heap.size + 1, 3, none⟩ = some (.int .i64 0) := cell_at T6.out.b1 3
       have t3 := free_at T6.out.b1 3
       have r4 : w6.cell? ⟨w.heap.size + 1, 4, none⟩ = some (.int .i64 0) := cell_at T6.out.b1 4
       have t4 := free_at T6.out.b1 4))
  obtain ⟨W, hW⟩ : ∃ W, W = ((((((w6.setCell ⟨w.heap.size + 2, 2, none⟩ (.slice x2 n2 c2)).setCell ⟨w.heap.size + 1, 0, none⟩ (.slice x0 n0 c0)).setCell ⟨w.heap.size + 1, 1, none⟩ (.slice x1 n1 c1)).setCell ⟨w.heap.size + 1, 2, none⟩ (.slice x2 n2 c2)).setCell ⟨w.heap.size + 1, 3, none⟩ (.int .i64 fuel)).setCell ⟨w.heap.size + 1, 4, none⟩ (.int .i64 bad)) := ⟨_, rfl⟩
  have T7 := ((((((T6.out.set2 2 (.slice x2 n2 c2)).set1 0 (.slice x0 n0 c0)).set1 1 (.slice x1 n1 c1)).set1 2 (.slice x2 n2 c2)).set1 3 (.int .i64 fuel)).set1 4 (.int .i64 bad))
  rw [← hW] at T7
  have HE : Hid (W.heap[w.heap.size + 1]? = some (.cells #[.slice x0 n0 c0, .slice x1 n1 c1, .slice x2 n2 c2, .int .i64 fuel, .int .i64 bad] 27 (0, 0)) ∧ Below w.heap.size w W ∧ W.heap.size = w6.heap.size ∧ ∀ x, x ≠ w.heap.size + 1 → x ≠ w.heap.size + 2 → W.heap[x]? = w6.heap[x]?) := by
    refine ⟨by simpa using T7.b1, T7.low, by rw [hW]; simp, fun x h1 h2 => by rw [hW]; simp only [kept_set h1, kept_set h2]⟩
  rw [← hW]
  clear hW T7
  have e0 := cell_at HE.out.1 0
  have e1 := cell_at HE.out.1 1
  have e2 := cell_at HE.out.1 2
  have e3 := cell_at HE.out.1 3
  have e4 := cell_at HE.out.1 4
  simp at e0 e1 e2 e3 e4
  refine bodyPost_ret (by simp [results, Try.results58, go_sem, e0, e1, e2, e3, e4]; try rfl) rfl ?_
  refine ⟨_, _, _, _, _, _, _, _, _, rfl, ⟨OwnsR.same O6.out.1.1 (fun g hg => HE.out.2.2.2 g (by have := (O6.out.2.1 g hg).1; omega) (by have := (O6.out.2.1 g hg).1; omega)), OwnsR.same O6.out.1.2.1 (fun g hg => HE.out.2.2.2 g (by have := (O6.out.2.2.1 g hg).1; omega) (by have := (O6.out.2.2.1 g hg).1; omega)), OwnsR.same O6.out.1.2.2 (fun g hg => HE.out.2.2.2 g (by have := (O6.out.2.2.2 g hg); omega) (by have := (O6.out.2.2.2 g hg); omega)), three_apart (fun g hg => (O6.out.2.1 g hg).2) (fun g hg => O6.out.2.2.1 g hg) (fun g hg => O6.out.2.2.2 g hg) z5⟩, HE.out.2.1⟩

end Go.Proofs.Ytabejilnpblogaa
