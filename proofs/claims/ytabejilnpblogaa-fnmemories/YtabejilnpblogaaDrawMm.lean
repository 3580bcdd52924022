/-
  The model's drawn memories: what each holds, and that the call owns its rows. Written by mkdrawmm.py.
-/
import Derived.Test.YtabejilnpblogaaMemNew
import Derived.Test.YtabejilnpblogaaSpY
import Derived.Test.YtabejilnpblogaaCu
namespace Go.Proofs.Ytabejilnpblogaa
open Go.RowKit

set_option maxRecDepth 100000 in
set_option maxHeartbeats 1600000 in
theorem specNew_own (B : Nat) (a : Option Addr) (n c : Nat) (xs : List Int) (f : Int) (w : World) (hB : B ≤ w.heap.size) (hv : RowI w B (.slice a n c) xs) (hn : nilOk (.slice a n c)) (hl : xs.length ≤ 2000000) :
    Calls Try.prog 82 #[.slice a n c, .int .i64 f] w fun e w' => ∃ a1 n1 c1, e = .returned (.agg #[.slice none 0 0, .slice a1 n1 c1, .slice none 0 0, .int .i64 f, .int .i64 0]) ∧ RowMm w' w'.heap.size (.slice none 0 0) (.slice a1 n1 c1) (.slice none 0 0) (newM xs f) ∧ OwnsI w' w.heap.size (.slice a1 n1 c1) xs ∧ Below w.heap.size w w' := by
  have HE : Hid (OwnsI ((w.alloc (.cells #[.slice none 0 0, .slice none 0 0, .slice none 0 0, .int .i64 0, .int .i64 0] 27 (0, 0))).alloc (.cells #[] 3)) w.heap.size (.slice (some ⟨w.heap.size + 1, 0, none⟩) 0 0) []) := owns_emptyAt (by have := heap_alloc_new (w.alloc (.cells #[.slice none 0 0, .slice none 0 0, .slice none 0 0, .int .i64 0, .int .i64 0] 27 (0, 0))) (.cells #[] 3); simpa using this) (by omega)
  have B1 : Hid (Box w (.cells #[.slice none 0 0, .slice none 0 0, .slice none 0 0, .int .i64 0, .int .i64 0] 27 (0, 0)) ((w.alloc (.cells #[.slice none 0 0, .slice none 0 0, .slice none 0 0, .int .i64 0, .int .i64 0] 27 (0, 0))).alloc (.cells #[] 3))) := (Box.first _ _).alloc _
  have HS : Hid (RowI ((w.alloc (.cells #[.slice none 0 0, .slice none 0 0, .slice none 0 0, .int .i64 0, .int .i64 0] 27 (0, 0))).alloc (.cells #[] 3)) B (.slice a n c) xs) := hv.keep (B1.out.below.mono hB)
  clear hv
  go_enter Try.func82, Try.ntmps82
  go_wp2_with (at_builtin; go_must (refine appendRow inC_len rfl _ _ 25 rfl w.heap.size 3 _ 8 Try.underlying25 Try.infoInt rfl (by decide) HE.out xs B a n c HS.out hn (inC_one _) rfl rfl (by simp; omega) (by omega) (by simp; omega) ?_); intro a' n' c' w2 ho hg hat; have hb2 : Below (w.heap.size + 1) ((w.alloc (.cells #[.slice none 0 0, .slice none 0 0, .slice none 0 0, .int .i64 0, .int .i64 0] 27 (0, 0))).alloc (.cells #[] 3)) w2 := (Below.refl _ _).grown hg (by simp) (fun x hx => by have h0 : x = w.heap.size + 1 := (Option.some.inj hx).symm; omega); have hr := (hb2.block w.heap.size (by omega)).trans ((Below.heap_alloc _ _ _ (by simp)).trans (heap_alloc_new w _)); have HR : Hid (w2.heap[w.heap.size]? = some (.cells #[.slice none 0 0, .slice none 0 0, .slice none 0 0, .int .i64 0, .int .i64 0] 27 (0, 0))) := hr; have HO : Hid (OwnsI w2 w.heap.size (.slice a' n' c') xs ∧ ∀ g ∈ fpOf (.slice a' n' c'), w.heap.size < g) := ⟨ho, fun g hg' => by have := fp_app (W := (w.alloc (.cells #[.slice none 0 0, .slice none 0 0, .slice none 0 0, .int .i64 0, .int .i64 0] 27 (0, 0)))) (e := 3) hat (by simp) g hg'; simp at this; omega⟩; have HB : Hid (Below w.heap.size w w2) := B1.out.below.trans (hb2.mono (by omega)); have r0 := cell_at hr 0; have r1 := cell_at hr 1; have r2 := cell_at hr 2; have r3 := cell_at hr 3; have r4 := cell_at hr 4; have f0 := free_at hr 0; have f1 := free_at hr 1; have f2 := free_at hr 2; have f3 := free_at hr 3; have f4 := free_at hr 4; simp at r0 r1 r2 r3 r4; clear ho hg hat hb2 hr HE HS B1)
  obtain ⟨Z, hZ⟩ : ∃ Z, Z = (((((w2.setCell ⟨w.heap.size, 0, none⟩ (.slice none 0 0)).setCell ⟨w.heap.size, 1, none⟩ (.slice a' n' c')).setCell ⟨w.heap.size, 2, none⟩ (.slice none 0 0)).setCell ⟨w.heap.size, 3, none⟩ (.int .i64 f)).setCell ⟨w.heap.size, 4, none⟩ (.int .i64 0)) := ⟨_, rfl⟩
  rw [← hZ]
  have h2 : Z.heap[w.heap.size]? = some (.cells #[.slice none 0 0, .slice a' n' c', .slice none 0 0, .int .i64 f, .int .i64 0] 27 (0, 0)) := by
    rw [hZ]
    exact heap_set (heap_set (heap_set (heap_set (heap_set HR.out))))
  have e0 := cell_at h2 0
  have e1 := cell_at h2 1
  have e2 := cell_at h2 2
  have e3 := cell_at h2 3
  have e4 := cell_at h2 4
  simp at e0 e1 e2 e3 e4
  have hs : ∀ g, g ≠ w.heap.size → Z.heap[g]? = w2.heap[g]? := fun g hg => by rw [hZ]; simp only [kept_set hg]
  have hO : OwnsI Z w.heap.size (.slice a' n' c') xs := OwnsR.same HO.out.1 (fun g hg => hs g (by have := HO.out.2 g hg; omega))
  have hb : Below w.heap.size w Z := by
    rw [hZ]
    exact ((((HB.out.setCell (p := ⟨w.heap.size, 0, none⟩) (Nat.le_refl _) _).setCell (p := ⟨w.heap.size, 1, none⟩) (Nat.le_refl _) _).setCell (p := ⟨w.heap.size, 2, none⟩) (Nat.le_refl _) _).setCell (p := ⟨w.heap.size, 3, none⟩) (Nat.le_refl _) _).setCell (p := ⟨w.heap.size, 4, none⟩) (Nat.le_refl _) _
  refine bodyPost_ret (by simp [results, Try.results82, go_sem, e0, e1, e2, e3, e4]; try rfl) rfl ?_
  exact ⟨_, _, _, rfl, ⟨CeR.row_nil _ _ _ _, OwnsI.row hO, ⟨none, 0, rfl, Nat.le_refl _, .inl rfl⟩⟩, hO, hb⟩

/-- What a drawn memory may be. -/
structure Small (k : Nat) (m : Mm) : Prop where
  bad : m.bad = 0
  fuel : 0 ≤ m.fuel ∧ m.fuel ≤ 3
  cells : m.cells.length = k
  input : m.input = [5, 6]
  out : m.out = []
theorem Small.sz {k : Nat} {m : Mm} (h : Small k m) : szMm m = k + 2 := by
  unfold szMm
  rw [szRowCe_len, h.cells, h.input, h.out]
  rfl
theorem Small.fresh {k : Nat} {m : Mm} (h : Small k m) (x : Int) : freshM m x = (pushM m x, 2, (k : Int)) ∧ Small (k + 1) (pushM m x) := by
  refine ⟨by unfold freshM; rw [if_pos h.bad, h.cells], h.bad, h.fuel, ?_, h.input, h.out⟩
  show (m.cells ++ [_]).length = _
  rw [List.length_append, h.cells]
  rfl
theorem Small.freed {k : Nat} {m : Mm} (h : Small k m) (t x : Int) : Small k (freedM m t x) := by
  unfold freedM
  split
  · split
    · exact ⟨h.bad, h.fuel, (by show (m.cells.set _ _).length = _; rw [List.length_set, h.cells]), h.input, h.out⟩
    · exact h
  · exact h
theorem Small.new (f : Int) (h0 : 0 ≤ f) (h3 : f ≤ 3) : Small 0 (newM [5, 6] f) := ⟨rfl, ⟨h0, h3⟩, rfl, rfl, rfl⟩

theorem MmAt.far {K p g : Nat} {W W' : World} {v0 v1 v2 : Value} {m : Mm} (h : MmAt K W p v0 v1 v2 m) (hg : W.grownBy W' (some g)) (hK : g < K) : MmAt K W' p v0 v1 v2 m := by
  have hk : ∀ b, K ≤ b → b < W.heap.size → W'.heap[b]? = W.heap[b]? := fun b h1 h2 => hg.block b h2 (by simp; omega)
  have q0 := fun b hb => hk b (OwnsR.lt h.cells b hb).1 (OwnsR.lt h.cells b hb).2
  have q1 := fun b hb => hk b (OwnsR.lt h.input b hb).1 (OwnsR.lt h.input b hb).2
  have q2 := fun b hb => hk b (OwnsR.lt h.out b hb).1 (OwnsR.lt h.out b hb).2
  exact ⟨(hk p h.low h.lt).trans h.blk, OwnsR.same h.cells q0, OwnsR.same h.input q1, OwnsR.same h.out q2, h.nd, h.low⟩

/-- A memory that is being drawn: where it lies, its cursor, and the block that the answer goes to. -/
structure DmAt (w0 w : World) (g : Nat) (cv : Value) (n : Nat) (K p : Nat) (v0 v1 v2 : Value) (m : Mm) (W : World) : Prop where
  mm : MmAt K W p v0 v1 v2 m
  dr : Draws w0 W 92 g cv n
  gr : w.grownBy W (some g)
  rz : W.heap[w.heap.size]? = some (.cells #[.slice none 0 0, .slice none 0 0, .slice none 0 0, .int .i64 0, .int .i64 0] 27 (0, 0))
  low : g < w.heap.size ∧ w.heap.size < K ∧ w0.heap.size ≤ w.heap.size ∧ K ≤ W.heap.size
section
variable {w0 w W W' : World} {g n K p : Nat} {cv v0 v1 v2 u0 u1 u2 : Value} {m m' : Mm}
theorem DmAt.draw (h : DmAt w0 w g cv n K p v0 v1 v2 m W) (hd : Draws w0 W' 92 g cv n ∧ W.grownBy W' (some g)) : DmAt w0 w g cv n K p v0 v1 v2 m W' :=
  have hl := h.low
  ⟨h.mm.far hd.2 (by omega), hd.1, h.gr.trans hd.2, (hd.2.block _ (by omega) (by simp; omega)).trans h.rz, hl.1, hl.2.1, hl.2.2.1, Nat.le_trans hl.2.2.2 hd.2.size⟩
theorem DmAt.op (h : DmAt w0 w g cv n K p v0 v1 v2 m W) (hm : MmAt K W' p u0 u1 u2 m') (hb : Below K W W') : DmAt w0 w g cv n K p u0 u1 u2 m' W' :=
  have hl := h.low
  ⟨hm, h.dr.below hb (by omega) (by omega), grown_then_below h.gr (hb.mono (by omega)), (hb.block _ (by omega)).trans h.rz, hl.1, hl.2.1, hl.2.2.1, Nat.le_trans hl.2.2.2 hb.size⟩
theorem DmAt.alloc (h : DmAt w0 w g cv n K p v0 v1 v2 m W) (o : Obj) : DmAt w0 w g cv n K p v0 v1 v2 m (W.alloc o) :=
  h.op (h.mm.below ((Below.refl _ _).alloc (Nat.le_refl _) _)) ((Below.refl _ _).alloc h.low.2.2.2 _)
end
theorem MmAt.ends {K p : Nat} {W Z : World} {v0 v1 v2 : Value} {m : Mm} (h : MmAt K W p v0 v1 v2 m) (r : Nat) (hr : r < K) (hz : W.heap[r]? = some (.cells #[.slice none 0 0, .slice none 0 0, .slice none 0 0, .int .i64 0, .int .i64 0] 27 (0, 0))) (hZ : Z = (((((W.setCell ⟨r, 0, none⟩ v0).setCell ⟨r, 1, none⟩ v1).setCell ⟨r, 2, none⟩ v2).setCell ⟨r, 3, none⟩ (.int .i64 m.fuel)).setCell ⟨r, 4, none⟩ (.int .i64 m.bad))) :
    Z.heap[r]? = some (.cells #[v0, v1, v2, .int .i64 m.fuel, .int .i64 m.bad] 27 (0, 0)) ∧ MmAt K Z p v0 v1 v2 m ∧ Below r W Z := by
  have n0 : r ∉ fpOf v0 := fun hm => by have := (OwnsR.lt h.cells _ hm).1; omega
  have n1 : r ∉ fpOf v1 := fun hm => by have := (OwnsR.lt h.input _ hm).1; omega
  have n2 : r ∉ fpOf v2 := fun hm => by have := (OwnsR.lt h.out _ hm).1; omega
  have np : r ≠ p := by have := h.low; omega
  refine ⟨?_, ?_, ?_⟩
  · rw [hZ]
    exact heap_set (heap_set (heap_set (heap_set (heap_set hz))))
  · rw [hZ]
    exact (((((h.aside r 0 v0 np n0 n1 n2).aside r 1 v1 np n0 n1 n2).aside r 2 v2 np n0 n1 n2).aside r 3 (.int .i64 m.fuel) np n0 n1 n2).aside r 4 (.int .i64 m.bad) np n0 n1 n2)
  · rw [hZ]
    exact ((((((Below.refl _ _).setCell (p := ⟨r, 0, none⟩) (Nat.le_refl _) _).setCell (p := ⟨r, 1, none⟩) (Nat.le_refl _) _).setCell (p := ⟨r, 2, none⟩) (Nat.le_refl _) _).setCell (p := ⟨r, 3, none⟩) (Nat.le_refl _) _).setCell (p := ⟨r, 4, none⟩) (Nat.le_refl _) _)
theorem MmAt.again {K p : Nat} {W : World} {v0 v1 v2 : Value} {m : Mm} (h : MmAt K W p v0 v1 v2 m) : MmAt K (W.alloc (.cells #[v0, v1, v2, .int .i64 m.fuel, .int .i64 m.bad] 27 (0, 0))) W.heap.size v0 v1 v2 m :=
  MmAt.of_copy h.cells h.input h.out (List.nodup_cons.mp h.nd).2 (Nat.le_of_lt (Nat.lt_of_le_of_lt h.low h.lt))
theorem l01Once_drawsH (w0 : World) (m g : Nat) (v : Value) (n : Nat) (w : World) (hm0 : 0 < m) (hm : m ≤ 4294967296) (hn : n ≤ 1048576) (h : Hid (Draws w0 w 92 g v n)) :
    Calls Try.prog 83 #[.pointer (some ⟨g, 0, none⟩), .int .i64 (m : Int)] w fun e w' => (∃ b : Bool, e = .returned (.bool b)) ∧ Hid (Draws w0 w' 92 g v n ∧ w.grownBy w' (some g)) :=
  (l01Once_any m w0.heap.size g v n w hm0 hm h.out.2.1 h.out.1 hn h.out.2.2.1 h.out.2.2.2.1).mono fun _ _ ⟨h1, h2, h3⟩ => ⟨h1, h.out.next h2 h3, h3⟩

theorem row_five {w : World} {b : Nat} {T : TypeId} (h : w.heap[b]? = some (.cells #[.int .i64 5, .int .i64 6] T)) (hb : b < w.heap.size) : RowI w w.heap.size (.slice (some ⟨b, 0, none⟩) 2 2) [5, 6] := by
  refine ⟨_, _, rfl, Nat.le_refl _, .inr ⟨b, 0, rfl, hb, fun i hi j hj => ?_⟩⟩
  have h0 := cell_at h 0
  have h1 := cell_at h 1
  have hi2 : i = 0 ∨ i = 1 := by simp at hi; omega
  obtain rfl : j = 0 := by omega
  rcases hi2 with rfl | rfl
  · exact h0
  · exact h1

set_option maxRecDepth 100000 in
set_option maxHeartbeats 3200000 in
theorem l09Memory_draws (w0 : World) (g : Nat) (v : Value) (n : Nat) (w : World) (hn : n ≤ 1048576) (h : Hid (Draws w0 w 92 g v n)) :
    Calls Try.prog 40 #[.pointer (some ⟨g, 0, none⟩)] w fun e w' => ∃ k m x0 n0 c0 x1 n1 c1 x2 n2 c2, (k ≤ 5 ∧ Small k m) ∧ e = .returned (.agg #[.slice x0 n0 c0, .slice x1 n1 c1, .slice x2 n2 c2, .int .i64 m.fuel, .int .i64 m.bad]) ∧ Hid ((∃ K p, w.heap.size < K ∧ MmAt K w' p (.slice x0 n0 c0) (.slice x1 n1 c1) (.slice x2 n2 c2) m) ∧ Draws w0 w' 92 g v n ∧ w.grownBy w' (some g)) := by
  have hgw : g < w.heap.size := h.out.2.2.2.1.lt
  have hw0 : w0.heap.size ≤ w.heap.size := h.out.1
  go_enter Try.func40, Try.ntmps40
  go_wp2_with fail
  go_at_call 43
  refine (l01Below_drawsG w0 4 g v n _ (by omega) (by omega) hn (show Hid _ from (h.out.other (World.grownBy_alloc _ _ _)).other (World.grownBy_alloc _ _ _))).mono ?_
  rintro e w3 ⟨⟨f, hf, rfl⟩, h3⟩
  have HB : Hid (w3.heap[w.heap.size]? = some (.cells #[.slice none 0 0, .slice none 0 0, .slice none 0 0, .int .i64 0, .int .i64 0] 27 (0, 0)) ∧ w3.heap[w.heap.size + 1]? = some (.cells #[.int .i64 5, .int .i64 6] 3) ∧ w.heap.size + 2 ≤ w3.heap.size ∧ Draws w0 w3 92 g v n ∧ w.grownBy w3 (some g)) := by
    have hs := h3.out.2.size
    simp at hs
    have a0 : ((w.alloc (.cells #[.slice none 0 0, .slice none 0 0, .slice none 0 0, .int .i64 0, .int .i64 0] 27 (0, 0))).alloc (.cells #[.int .i64 5, .int .i64 6] 3)).heap[w.heap.size]? = some (.cells #[.slice none 0 0, .slice none 0 0, .slice none 0 0, .int .i64 0, .int .i64 0] 27 (0, 0)) := (Below.heap_alloc _ _ _ (by simp)).trans (heap_alloc_new _ _)
    have a1 : ((w.alloc (.cells #[.slice none 0 0, .slice none 0 0, .slice none 0 0, .int .i64 0, .int .i64 0] 27 (0, 0))).alloc (.cells #[.int .i64 5, .int .i64 6] 3)).heap[w.heap.size + 1]? = some (.cells #[.int .i64 5, .int .i64 6] 3) := by
      have := heap_alloc_new (w.alloc (.cells #[.slice none 0 0, .slice none 0 0, .slice none 0 0, .int .i64 0, .int .i64 0] 27 (0, 0))) (.cells #[.int .i64 5, .int .i64 6] 3)
      rw [show (w.alloc (.cells #[.slice none 0 0, .slice none 0 0, .slice none 0 0, .int .i64 0, .int .i64 0] 27 (0, 0))).heap.size = w.heap.size + 1 by simp] at this
      exact this
    refine ⟨(h3.out.2.block w.heap.size (by simp; omega) (by simp; omega)).trans a0, (h3.out.2.block (w.heap.size + 1) (by simp) (by simp; omega)).trans a1, by omega, h3.out.1, ?_⟩
    exact (((World.grownBy_alloc w _ _).trans (World.grownBy_alloc _ _ _)).trans h3.out.2)
  have hz3 := HB.out.2.2.1
  clear h3
  go_wp2_with fail
  go_at_call 82
  refine (specNew_own w3.heap.size _ _ _ [5, 6] (f : Int) w3 (Nat.le_refl _) (row_five HB.out.2.1 (by omega)) trivial (by decide)).mono ?_
  rintro e w4 ⟨a1, n1, c1, rfl, _, ho, hb⟩
  have hz4 := hb.size
  have HS : Hid (DmAt w0 w g v n (w.heap.size + 2) w4.heap.size (.slice none 0 0) (.slice a1 n1 c1) (.slice none 0 0) (newM [5, 6] (f : Int)) (w4.alloc (.cells #[.slice none 0 0, .slice a1 n1 c1, .slice none 0 0, .int .i64 (f : Int), .int .i64 0] 27 (0, 0)))) := by
    have hb2 : Below w3.heap.size w3 (w4.alloc (.cells #[.slice none 0 0, .slice a1 n1 c1, .slice none 0 0, .int .i64 (f : Int), .int .i64 0] 27 (0, 0))) := hb.alloc hz4 _
    have hr : w4.heap[w.heap.size]? = some (.cells #[.slice none 0 0, .slice none 0 0, .slice none 0 0, .int .i64 0, .int .i64 0] 27 (0, 0)) := (hb.block _ (by omega)).trans HB.out.1
    have hd4 : Draws w0 w4 92 g v n := HB.out.2.2.2.1.below hb (by omega) (by omega)
    refine ⟨MmAt.of_copy (m := newM [5, 6] (f : Int)) (ownsR_nil _ _ _ _ _) (OwnsR.base ho (fun b hb => by have := (OwnsR.lt ho b hb).1; omega)) (ownsR_nil _ _ _ _ _) ?_ (by omega), hd4.other (World.grownBy_alloc _ _ _), (grown_then_below HB.out.2.2.2.2 (hb2.mono (by omega))), ?_, hgw, by omega, hw0, by simp; omega⟩
    · rw [show fps [.slice none 0 0, .slice a1 n1 c1, .slice none 0 0] = fpOf (.slice a1 n1 c1) by simp [fps, fpOf, Value.ownBlock]]
      rcases fp_one (.slice a1 n1 c1) with e | ⟨b, e⟩ <;> rw [e] <;> simp
    · exact ((Below.refl _ w4).alloc (Nat.le_refl _) _ |>.block _ (by omega)).trans hr
  clear hb ho HB hz3
  have HF : Hid (0 ≤ (f : Int) ∧ (f : Int) ≤ 3) := ⟨by omega, by omega⟩
  clear hf
  go_wp2
  go_loopw [4] (fun i wr => ∃ (k : Nat) (m : Mm) (x0 : Option Addr) (n0 c0 : Nat) (x1 : Option Addr) (n1 c1 : Nat) (x2 : Option Addr) (n2 c2 : Nat), i = .int .i64 (k : Int) ∧ k ≤ 5 ∧ Hid (Small k m) ∧ Hid (DmAt w0 w g v n (w.heap.size + 2) w4.heap.size (.slice x0 n0 c0) (.slice x1 n1 c1) (.slice x2 n2 c2) m wr)) (fun i _ => 5 - (intOf i).toNat)
  case atStart => exact ⟨0, newM [5, 6] (f : Int), _, _, _, _, _, _, _, _, _, rfl, by omega, Small.new _ HF.out.1 HF.out.2, HS.out⟩
  case round =>
    obtain ⟨k, m, x0, n0, c0, x1, n1, c1, x2, n2, c2, rfl, hk, hm, HD⟩ := hrel
    go_wp2_with fail
    go_at_call 43
    refine (l01Below_drawsG w0 6 g v n _ (by omega) (by omega) hn (show Hid _ from HD.out.dr)).mono ?_
    rintro e w5 ⟨⟨x, hx, rfl⟩, h5⟩
    have HD5 : Hid (DmAt w0 w g v n (w.heap.size + 2) w4.heap.size (.slice x0 n0 c0) (.slice x1 n1 c1) (.slice x2 n2 c2) m w5) := HD.out.draw h5.out
    clear h5 HD
    by_cases hlt : k < x
    · have hk1 : (k : Int) < (x : Int) := by omega
      have hk4 : k ≤ 4 := by omega
      go_wp2_with fail
      go_at_call 59
      refine (l09Fresh_any (w.heap.size + 2) w4.heap.size x0 n0 c0 x1 n1 c1 x2 n2 c2 m (k : Int) w5 HD5.out.mm (by rw [hm.out.sz]; omega)).mono ?_
      rw [(hm.out.fresh (k : Int)).1]
      rintro e w6 ⟨⟨rfl, ⟨y0, m0, d0, hM, _⟩, hb⟩, _, _⟩
      have HD6 : Hid (DmAt w0 w g v n (w.heap.size + 2) w4.heap.size (.slice y0 m0 d0) (.slice x1 n1 c1) (.slice x2 n2 c2) (pushM m (k : Int)) w6) := HD5.out.op hM hb
      have hm6 : Hid (Small (k + 1) (pushM m (k : Int))) := (hm.out.fresh (k : Int)).2
      obtain ⟨m6, hm6e⟩ : ∃ M, Hid (pushM m (k : Int) = M) := ⟨_, (rfl : pushM m (k : Int) = pushM m (k : Int))⟩
      rw [hm6e.out] at HD6 hm6
      clear hb hM HD5 hm hm6e
      have hl6 := HD6.out.low
      have hw6 : w6.heap.size ≠ g := by omega
      go_wp2_with fail
      go_at_call 83
      refine (l01Once_drawsH w0 3 g v n _ (by omega) (by omega) hn (show Hid _ from (HD6.out.alloc _).dr)).mono ?_
      rintro e w7 ⟨⟨b, rfl⟩, h7⟩
      have HD7 : Hid (DmAt w0 w g v n (w.heap.size + 2) w4.heap.size (.slice y0 m0 d0) (.slice x1 n1 c1) (.slice x2 n2 c2) m6 w7) := (HD6.out.alloc _).draw h7.out
      have HV : Hid (w7.heap[w6.heap.size]? = some (.cells #[.int .i64 2, .int .i64 (k : Int)] 31 (0, 0))) := (h7.out.2.block _ (by simp) (by simp; omega)).trans (heap_alloc_new _ _)
      have t0 := cell_at HV.out 0
      have t1 := cell_at HV.out 1
      simp at t0 t1
      clear h7 HD6
      cases b
      · go_wp2
        go_roundw
        case rel => exact ⟨k + 1, m6, _, _, _, _, _, _, _, _, _, by go_num, by omega, hm6.out, HD7.out⟩
        case measure => simp [intOf]; omega
      · go_wp2_with fail
        go_at_call 72
        refine Calls.mono (l09Freed_any (w.heap.size + 2) w4.heap.size y0 m0 d0 x1 n1 c1 x2 n2 c2 m6 2 (k : Int) w7 HD7.out.mm (by rw [hm6.out.sz]; omega)) ?_
        rintro e w8 ⟨rfl, ⟨z0, p0, q0, z1, p1, q1, z2, p2, q2, hM⟩, hb⟩
        have HD8 : Hid (DmAt w0 w g v n (w.heap.size + 2) w4.heap.size (.slice z0 p0 q0) (.slice z1 p1 q1) (.slice z2 p2 q2) (freedM m6 2 (k : Int)) w8) := HD7.out.op hM hb
        have hm8 : Hid (Small (k + 1) (freedM m6 2 (k : Int))) := hm6.out.freed 2 (k : Int)
        clear hM hb HD7 t0 t1
        go_wp2
        go_roundw
        case rel => exact ⟨k + 1, _, _, _, _, _, _, _, _, _, _, by go_num, by omega, hm8.out, HD8.out⟩
        case measure => simp [intOf]; omega
    · have hk1 : ¬ (k : Int) < (x : Int) := by omega
      have MM : Hid (MmAt (w.heap.size + 2) w5 w4.heap.size (.slice x0 n0 c0) (.slice x1 n1 c1) (.slice x2 n2 c2) m) := HD5.out.mm
      have RZ : Hid (w5.heap[w.heap.size]? = some (.cells #[.slice none 0 0, .slice none 0 0, .slice none 0 0, .int .i64 0, .int .i64 0] 27 (0, 0))) := HD5.out.rz
      have u0 := cell_at MM.out.blk 0
      have u1 := cell_at MM.out.blk 1
      have u2 := cell_at MM.out.blk 2
      have u3 := cell_at MM.out.blk 3
      have u4 := cell_at MM.out.blk 4
      have hlt := MM.out.lt
      have r0' := cell_at RZ.out 0
      have q0' := free_at RZ.out 0
      have r1' := cell_at RZ.out 1
      have q1' := free_at RZ.out 1
      have r2' := cell_at RZ.out 2
      have q2' := free_at RZ.out 2
      have r3' := cell_at RZ.out 3
      have q3' := free_at RZ.out 3
      have r4' := cell_at RZ.out 4
      have q4' := free_at RZ.out 4
      simp at u0 u1 u2 u3 u4 r0' r1' r2' r3' r4'
      go_wp2
      obtain ⟨Z, hZ⟩ : ∃ Z, Z = (((((w5.setCell ⟨w.heap.size, 0, none⟩ (.slice x0 n0 c0)).setCell ⟨w.heap.size, 1, none⟩ (.slice x1 n1 c1)).setCell ⟨w.heap.size, 2, none⟩ (.slice x2 n2 c2)).setCell ⟨w.heap.size, 3, none⟩ (.int .i64 m.fuel)).setCell ⟨w.heap.size, 4, none⟩ (.int .i64 m.bad)) := ⟨_, rfl⟩
      rw [← hZ]
      have HE := MM.out.ends w.heap.size (by omega) RZ.out hZ
      have e0 := cell_at HE.1 0
      have e1 := cell_at HE.1 1
      have e2 := cell_at HE.1 2
      have e3 := cell_at HE.1 3
      have e4 := cell_at HE.1 4
      simp at e0 e1 e2 e3 e4
      refine bodyPost_ret (by simp [results, Try.results40, go_sem, e0, e1, e2, e3, e4]; try rfl) rfl ?_
      have hfin : Hid ((∃ K p, w.heap.size < K ∧ MmAt K Z p (.slice x0 n0 c0) (.slice x1 n1 c1) (.slice x2 n2 c2) m) ∧ Draws w0 Z 92 g v n ∧ w.grownBy Z (some g)) := ⟨⟨w.heap.size + 2, w4.heap.size, by omega, HE.2.1⟩, HD5.out.dr.below HE.2.2 hgw hw0, grown_then_below HD5.out.gr HE.2.2⟩
      clear HE hZ
      exact ⟨k, m, x0, n0, c0, x1, n1, c1, x2, n2, c2, ⟨hk, hm.out⟩, rfl, hfin⟩

set_option maxRecDepth 100000 in
set_option maxHeartbeats 3200000 in
theorem DrawMemory_any (v : Value) (n : Nat) (w : World) (hn : n ≤ 1048576) (hv : Code8 w w.heap.size v n) :
    Calls Try.prog 7 #[v] w fun e w' => ∃ m x0 n0 c0 x1 n1 c1 x2 n2 c2, (m.bad = 0 ∧ m.fuel = 9 ∧ szMm m ≤ 7) ∧ e = .returned (.agg #[.slice x0 n0 c0, .slice x1 n1 c1, .slice x2 n2 c2, .int .i64 9, .int .i64 0]) ∧ Hid (OwnMm w' w.heap.size w'.heap.size (.slice x0 n0 c0) (.slice x1 n1 c1) (.slice x2 n2 c2) m ∧ Below w.heap.size w w') := by
  have V : Hid (Code8 w w.heap.size v n) := hv
  clear hv
  have hal : w.grownBy (w.alloc (.cells #[.slice none 0 0, .slice none 0 0, .slice none 0 0, .int .i64 0, .int .i64 0] 27 (0, 0))) none := World.grownBy_alloc _ _ _
  have V1 : Hid (Code8 (w.alloc (.cells #[.slice none 0 0, .slice none 0 0, .slice none 0 0, .int .i64 0, .int .i64 0] 27 (0, 0))) (w.alloc (.cells #[.slice none 0 0, .slice none 0 0, .slice none 0 0, .int .i64 0, .int .i64 0] 27 (0, 0))).heap.size v n) := (V.out.kept (Nat.le_refl _) hal (fun k e => by cases e)).up hal.size
  clear hal
  go_enter Try.func7, Try.ntmps7
  go_wp2_with fail
  go_at_call 41
  refine (l01New_draws v n _ hn V1.out).mono ?_
  rw [show (w.alloc (.cells #[.slice none 0 0, .slice none 0 0, .slice none 0 0, .int .i64 0, .int .i64 0] 27 (0, 0))).heap.size = w.heap.size + 1 by simp]
  rintro e w1 ⟨rfl, h1⟩
  have R1 : Hid (w1.heap[w.heap.size]? = some (.cells #[.slice none 0 0, .slice none 0 0, .slice none 0 0, .int .i64 0, .int .i64 0] 27 (0, 0))) := (h1.out.2.2.2.2.block w.heap.size (by simp) (by simp)).trans (heap_alloc_new _ _)
  have z1 : w.heap.size + 1 ≤ w1.heap.size := by have := h1.out.1; simpa using this
  go_wp2_with fail
  go_at_call 40
  refine (l09Memory_draws (w.alloc (.cells #[.slice none 0 0, .slice none 0 0, .slice none 0 0, .int .i64 0, .int .i64 0] 27 (0, 0))) (w.heap.size + 1) v n w1 hn h1).mono ?_
  rintro e w2 ⟨k, m, x0, n0, c0, x1, n1, c1, x2, n2, c2, ⟨hk, hm⟩, rfl, h2⟩
  obtain ⟨⟨K, p, hK, hM⟩, hD, hG⟩ := h2.out
  have hgs := hG.size
  have hsz : szMm m ≤ 7 := by rw [hm.sz]; omega
  obtain ⟨cs, inp, ou, fu, bd⟩ := m
  obtain rfl : bd = 0 := hm.bad
  have MM : Hid (MmAt K (w2.alloc (.cells #[.slice x0 n0 c0, .slice x1 n1 c1, .slice x2 n2 c2, .int .i64 9, .int .i64 0] 27 (0, 0))) w2.heap.size (.slice x0 n0 c0) (.slice x1 n1 c1) (.slice x2 n2 c2) ⟨cs, inp, ou, 9, 0⟩) := MmAt.of_copy (m := ⟨cs, inp, ou, 9, 0⟩) hM.cells hM.input hM.out (List.nodup_cons.mp hM.nd).2 (Nat.le_of_lt (Nat.lt_of_le_of_lt hM.low hM.lt))
  have HB : Hid (Below w.heap.size w (w2.alloc (.cells #[.slice x0 n0 c0, .slice x1 n1 c1, .slice x2 n2 c2, .int .i64 9, .int .i64 0] 27 (0, 0)))) := by
    have q1 : Below w.heap.size w (w.alloc (.cells #[.slice none 0 0, .slice none 0 0, .slice none 0 0, .int .i64 0, .int .i64 0] 27 (0, 0))) := (Below.refl _ _).alloc (Nat.le_refl _) _
    have q2 : Below (w.alloc (.cells #[.slice none 0 0, .slice none 0 0, .slice none 0 0, .int .i64 0, .int .i64 0] 27 (0, 0))).heap.size (w.alloc (.cells #[.slice none 0 0, .slice none 0 0, .slice none 0 0, .int .i64 0, .int .i64 0] 27 (0, 0))) w2 := below_of_grown hD.2.2.2.2
    exact ((q1.trans (q2.mono (by simp))).alloc (by omega) _)
  have RZ : Hid ((w2.alloc (.cells #[.slice x0 n0 c0, .slice x1 n1 c1, .slice x2 n2 c2, .int .i64 9, .int .i64 0] 27 (0, 0))).heap[w.heap.size]? = some (.cells #[.slice none 0 0, .slice none 0 0, .slice none 0 0, .int .i64 0, .int .i64 0] 27 (0, 0))) := by
    have q2 := (hG.block w.heap.size (by omega) (by simp)).trans R1.out
    rw [Below.heap_alloc _ _ _ (by omega)]
    exact q2
  have HS : Hid (szMm ⟨cs, inp, ou, fu, 0⟩ ≤ 7) := hsz
  have hwK : w.heap.size < K := by omega
  clear h1 R1 hM hD hG hk hm V V1 hsz h2
  have u0 := cell_at MM.out.blk 0
  have u1 := cell_at MM.out.blk 1
  have u2 := cell_at MM.out.blk 2
  have u3 := cell_at MM.out.blk 3
  have u4 := cell_at MM.out.blk 4
  have hlt := MM.out.lt
  have r0' := cell_at RZ.out 0
  have q0' := free_at RZ.out 0
  have r1' := cell_at RZ.out 1
  have q1' := free_at RZ.out 1
  have r2' := cell_at RZ.out 2
  have q2' := free_at RZ.out 2
  have r3' := cell_at RZ.out 3
  have q3' := free_at RZ.out 3
  have r4' := cell_at RZ.out 4
  have q4' := free_at RZ.out 4
  simp at u0 u1 u2 u3 u4 r0' r1' r2' r3' r4'
  go_wp2
  obtain ⟨Z, hZ⟩ : ∃ Z, Z = ((((((w2.alloc (.cells #[.slice x0 n0 c0, .slice x1 n1 c1, .slice x2 n2 c2, .int .i64 9, .int .i64 0] 27 (0, 0))).setCell ⟨w.heap.size, 0, none⟩ (.slice x0 n0 c0)).setCell ⟨w.heap.size, 1, none⟩ (.slice x1 n1 c1)).setCell ⟨w.heap.size, 2, none⟩ (.slice x2 n2 c2)).setCell ⟨w.heap.size, 3, none⟩ (.int .i64 9)).setCell ⟨w.heap.size, 4, none⟩ (.int .i64 0)) := ⟨_, rfl⟩
  rw [← hZ]
  have HE := MM.out.ends w.heap.size (by omega) RZ.out hZ
  have e0 := cell_at HE.1 0
  have e1 := cell_at HE.1 1
  have e2 := cell_at HE.1 2
  have e3 := cell_at HE.1 3
  have e4 := cell_at HE.1 4
  simp at e0 e1 e2 e3 e4
  refine bodyPost_ret (by simp [results, Try.results7, go_sem, e0, e1, e2, e3, e4]; try rfl) rfl ?_
  have hfin : Hid (OwnMm Z w.heap.size Z.heap.size (.slice x0 n0 c0) (.slice x1 n1 c1) (.slice x2 n2 c2) ⟨cs, inp, ou, 9, 0⟩ ∧ Below w.heap.size w Z) := ⟨HE.2.1.own (by omega), HB.out.trans HE.2.2⟩
  clear HE hZ
  exact ⟨⟨cs, inp, ou, 9, 0⟩, x0, n0, c0, x1, n1, c1, x2, n2, c2, ⟨rfl, rfl, HS.out⟩, rfl, hfin⟩

end Go.Proofs.Ytabejilnpblogaa
