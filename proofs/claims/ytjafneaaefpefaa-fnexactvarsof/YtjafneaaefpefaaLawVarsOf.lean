/-
  The law of VarsOf: at every program and every place it answers true.
-/
import Derived.Test.YtjafneaaefpefaaVb
import Derived.Test.YtjafneaaefpefaaHeldVar
import Derived.Test.YtjafneaaefpefaaMk
namespace Go.Proofs.Ytjafneaaefpefaa
open Go.RowKit

theorem OwnsV.row {w : World} {B : Nat} {v : Value} {xs : List Vr} (h : OwnsV w B v xs) : VrR.Row w w.heap.size v xs := ⟨xs, List.map_id _, OwnsR.read vrC_len h (fun g hg => (OwnsR.lt h g hg).2), fun _ _ => trivial⟩
theorem OwnsV.phys {w : World} {B : Nat} {v : Value} {xs : List Vr} (h : OwnsV w B v xs) : VrR.Phys w B v xs := ⟨h, fun _ _ => trivial⟩
theorem OwnsV.rim {w w' : World} {B L H : Nat} {v : Value} {xs : List Vr} (h : OwnsV w B v xs) (hr : Rim L H w w') (hd : ∀ g ∈ fpOf v, g < L ∨ H ≤ g) : OwnsV w' B v xs :=
  OwnsR.same h (fun g hg => hr.block g (OwnsR.lt h g hg).2 (hd g hg))
theorem OwnsV.keptBy {w w' : World} {B : Nat} {v u : Value} {xs : List Vr} (h : OwnsV w B v xs) (hr : Kept [u] w w') (hd : ∀ g ∈ fpOf v, g ∉ fpOf u) : OwnsV w' B v xs :=
  OwnsR.same h (fun g hg => hr.block g (OwnsR.lt h g hg).2 (by rw [fps_one]; exact hd g hg))
theorem OwnsV.any {w : World} {B : Nat} {v : Value} {xs : List Vr} (h : OwnsV w B v xs) : OwnsV w 0 v xs := owns_base h (Nat.zero_le _)
theorem markN_Vr (xs : List Vr) : markN lnVr xs = 3 * xs.length := by
  induction xs with
  | nil => rfl
  | cons x xs ih => simp only [markN, ih, lnVr, List.length_cons]; omega
theorem fpOf_nodup (v : Value) : (fpOf v).Nodup := by
  unfold fpOf
  cases v.ownBlock <;> simp
theorem picks_len' : ∀ (bs : List Bool) (t : Nat), (picks bs t).length ≤ t := picks_len
theorem varsOf_cases (p : Pg) (fn : Int) : varsOf p fn = [] ∨ ∃ f ∈ p.fns, varsOf p fn = varsIn p.nodes f := by
  unfold varsOf
  split
  · rename_i h
    rw [isIn_iff] at h
    have hl : fn.toNat < p.fns.length := by omega
    exact .inr ⟨p.fns[fn.toNat], List.getElem_mem hl, by simp [List.getD, hl]⟩
  · exact .inl rfl
theorem underL_len (ns : List Nd) (k : Int) : (underL ns k).length ≤ ns.length := by
  unfold underL
  split
  · simp
  · rename_i h
    have hk := deep_in7 h
    exact Nat.le_trans (picks_len _ _) (by omega)
theorem varsOf_len {p : Pg} (hl : szPg p ≤ 1048576) (fn : Int) : (varsOf p fn).length ≤ 2097152 := by
  rcases varsOf_cases p fn with h | ⟨f, hf, h⟩
  · rw [h]
    simp
  · rw [h]
    unfold varsIn
    rw [List.length_append, List.length_map]
    have h1 := lets_len p.nodes (underL p.nodes f.body)
    have h2 := underL_len p.nodes f.body
    have h3 := len_szRow szNd p.nodes
    have h4 := le_szPg_nodes p
    have h5 := le_szPg_fns p
    have h6 := mem_szRow szFc hf
    have h7 := le_szFc_params f
    have h8 := len_szRow szPm f.params
    omega
theorem varsOf_sz {p : Pg} (hl : szPg p ≤ 1048576) {fn : Int} {x : Vr} (hx : x ∈ varsOf p fn) : szVr x ≤ 1048576 := by
  rcases varsOf_cases p fn with h | ⟨f, hf, h⟩
  · rw [h] at hx
    simp at hx
  · rw [h] at hx
    unfold varsIn at hx
    have h4 := le_szPg_nodes p
    have h5 := le_szPg_fns p
    rcases List.mem_append.mp hx with hx | hx
    · obtain ⟨q, hq, rfl⟩ := List.mem_map.mp hx
      have h6 := mem_szRow szFc hf
      have h7 := le_szFc_params f
      have h8 := mem_szRow szPm hq
      have h9 : szVr (parV q) = szPm q := rfl
      omega
    · unfold lets at hx
      obtain ⟨k, hk, rfl⟩ := List.mem_map.mp hx
      have hk1 := underL_in (List.mem_filter.mp hk).1
      have hkl : k.toNat < p.nodes.length := by omega
      have h6 := mem_szRow szNd (List.getElem_mem hkl)
      have h7 := le_szNd_name p.nodes[k.toNat]
      have h8 : szVr (letV p.nodes k) = p.nodes[k.toNat].name.size := by
        unfold letV szVr
        simp [List.getD, hkl]
      omega

set_option maxRecDepth 100000 in
set_option maxHeartbeats 1600000 in
theorem eqVarS_len (B : Nat) (va vb : Value) (xs : List Vr) (w : World) (hB : B ≤ w.heap.size) (ha : VrR.Row w B va xs) (hb : VrR.Row w B vb xs) (hl : xs.length ≤ 4194304) (hq : ∀ x ∈ xs, szVr x ≤ 1048576) :
    Calls Try.prog 45 #[va, vb] w fun e w' => e = .returned (.bool true) ∧ Below w.heap.size w w' := by
  obtain ⟨a, ca, rfl⟩ := ha.len
  obtain ⟨b, cb, rfl⟩ := hb.len
  obtain ⟨N, HN⟩ : ∃ N, Hid (xs.length = N) := ⟨_, (rfl : xs.length = xs.length)⟩
  have H : Hid (VrR.Row w B (.slice a N ca) xs ∧ VrR.Row w B (.slice b N cb) xs) := by rw [← HN.out]; exact ⟨ha, hb⟩
  have HS : Hid (∀ x ∈ xs, szVr x ≤ 1048576) := hq
  have hN : N ≤ 4194304 := by have := HN.out; omega
  rw [HN.out]
  clear ha hb hl hq
  go_enter Try.func45, Try.ntmps45
  go_wp2
  go_loopw [5] (fun i wr => ∃ k : Nat, k ≤ N ∧ i = .int .i64 (k : Int) ∧ Below w.heap.size w wr) (fun i _ => N - (intOf i).toNat)
  case atStart => exact ⟨0, Nat.zero_le _, rfl, Below.refl _ _⟩
  case round =>
    obtain ⟨k, hk, rfl, hbw⟩ := hrel
    by_cases hlt : k < N
    · have hk1 : (k : Int) < (N : Int) := by omega
      have hk0 : (0 : Int) ≤ (k : Int) := by omega
      have hkl : k < xs.length := by have := HN.out; omega
      obtain ⟨ba, oa, rfl, hba, c0, c1, c2⟩ := VrR.at H.out.1 k hkl
      obtain ⟨bb, ob, rfl, hbb, e0, e1, e2⟩ := VrR.at H.out.2 k hkl
      have hq : szVr xs[k] ≤ 1048576 := HS.out _ (List.getElem_mem hkl)
      obtain ⟨q, hqe⟩ : ∃ q, Hid (xs[k] = q) := ⟨_, (rfl : xs[k] = xs[k])⟩
      rw [hqe.out] at c0 c1 c2 e0 e1 e2 hq
      have cQ : Hid (∀ W, Below w.heap.size w W → Calls Try.prog 85 #[.agg #[.string q.name, .int .i64 q.ty, .int .i64 q.node], .agg #[.string q.name, .int .i64 q.ty, .int .i64 q.node]] W fun e w' => e = .returned (.bool true) ∧ Below W.heap.size W w') := fun W hW =>
        eqVar_same B q W (Nat.le_trans hB hW.size) hq
      obtain ⟨name, ty, node⟩ := q
      simp only at c0 c1 c2 e0 e1 e2 cQ
      clear hq
      have hba1 : ba < wr.heap.size := by have := hbw.size; omega
      have hbb1 : bb < wr.heap.size := by have := hbw.size; omega
      have d0 := (hbw.cell (p := ⟨ba, oa + k * 3, none⟩) (by show ba < _; omega)).trans c0
      have f0 := (hbw.cell (p := ⟨bb, ob + k * 3, none⟩) (by show bb < _; omega)).trans e0
      have d1 := (hbw.cell (p := ⟨ba, oa + k * 3 + 1, none⟩) (by show ba < _; omega)).trans c1
      have f1 := (hbw.cell (p := ⟨bb, ob + k * 3 + 1, none⟩) (by show bb < _; omega)).trans e1
      have d2 := (hbw.cell (p := ⟨ba, oa + k * 3 + 2, none⟩) (by show ba < _; omega)).trans c2
      have f2 := (hbw.cell (p := ⟨bb, ob + k * 3 + 2, none⟩) (by show bb < _; omega)).trans e2
      clear c0 c1 c2 e0 e1 e2
      go_wp2_with fail
      go_region_held3 (fun w' => (w'.cell? ⟨ba, oa + k * 3, none⟩ = some (.string name) ∧ w'.cell? ⟨ba, oa + k * 3 + 1, none⟩ = some (.int .i64 ty) ∧ w'.cell? ⟨ba, oa + k * 3 + 2, none⟩ = some (.int .i64 node)) ∧ (w'.cell? ⟨bb, ob + k * 3, none⟩ = some (.string name) ∧ w'.cell? ⟨bb, ob + k * 3 + 1, none⟩ = some (.int .i64 ty) ∧ w'.cell? ⟨bb, ob + k * 3 + 2, none⟩ = some (.int .i64 node))) (first | exact ⟨⟨d0, d1, d2⟩, ⟨f0, f1, f2⟩⟩ | exact ⟨⟨(hb1.cell (p := ⟨ba, oa + k * 3, none⟩) hba1).trans d0, (hb1.cell (p := ⟨ba, oa + k * 3 + 1, none⟩) hba1).trans d1, (hb1.cell (p := ⟨ba, oa + k * 3 + 2, none⟩) hba1).trans d2⟩, ⟨(hb1.cell (p := ⟨bb, ob + k * 3, none⟩) hbb1).trans f0, (hb1.cell (p := ⟨bb, ob + k * 3 + 1, none⟩) hbb1).trans f1, (hb1.cell (p := ⟨bb, ob + k * 3 + 2, none⟩) hbb1).trans f2⟩⟩) ((go_at_call 85; refine Calls.mono (cQ.out _ hbw.drew) ?_; rintro e w1 ⟨rfl, hb1⟩))
      all_goals
        go_wp2
        go_roundw
        case rel => exact ⟨k + 1, by omega, by go_num, hbw.drew.trans (hb1.mono hbw.size)⟩
        case measure => simp [intOf]; omega
    · go_wp2
      go_ret
      exact ⟨rfl, hbw⟩

set_option maxRecDepth 100000 in
set_option maxHeartbeats 6400000 in
theorem lawVarsOf (a0 a1 : Value) (p : Pg) (k : Int) (w : World) (hp : RowPg w w.heap.size a0 a1 p ∧ okPg p) :
    Calls Try.prog 12 #[.agg #[a0, a1], .int .i64 k] w fun e w' => e = .returned (.bool true) ∧ Below w.heap.size w w' := by
  have cZ : Hid (∀ W, Below w.heap.size w W → Calls Try.prog 26 #[.agg #[a0, a1], .int .i64 1048576] W fun e w' => (∃ r : Int, e = .returned (.int .i64 r) ∧ (r = -1 ∨ (0 ≤ r ∧ r + (szPg p : Int) = 1048576))) ∧ Below W.heap.size W w') := fun W hW =>
    szProgram_sum w.heap.size p a0 a1 1048576 W hW.size (hp.1.keep hW) hp.2 (by omega) (by omega)
  have HP : Hid (RowPg w w.heap.size a0 a1 p) := hp.1
  clear hp
  go_enter Try.func12, Try.ntmps12
  go_wp2_with fail
  go_at_call 26
  refine Calls.mono (cZ.out _ (by go_grown)) ?_
  rintro e w1 ⟨⟨r, rfl, hr⟩, hb⟩
  have B1 : Hid (Box w (.cells #[a0, a1] 34) w1) := (Box.first _ _).next hb
  clear cZ hb
  rcases hr with rfl | ⟨hr0, hr1⟩
  · go_wp2
    go_ret
    exact ⟨rfl, B1.out.below⟩
  have hrn : ¬ r < 0 := by omega
  have hl : szPg p ≤ 1048576 := by omega
  have HL : Hid (szPg p ≤ 1048576 ∧ szRow szNd p.nodes ≤ 1048576) := ⟨hl, Nat.le_trans (le_szPg_nodes p) hl⟩
  obtain ⟨N0, H0⟩ : ∃ K, Hid (p.nodes.length = K) := ⟨_, (rfl : p.nodes.length = p.nodes.length)⟩
  obtain ⟨N1, H1⟩ : ∃ K, Hid (p.fns.length = K) := ⟨_, (rfl : p.fns.length = p.fns.length)⟩
  have cT : Hid (∀ W, Below w.heap.size w W → Calls Try.prog 28 #[.agg #[a0, a1]] W fun e w' => ∃ g c g' c', e = .returned (.agg #[.slice (some ⟨g, 0, none⟩) N0 c, .slice (some ⟨g', 0, none⟩) N1 c']) ∧ OwnPg w' W.heap.size w'.heap.size (.slice (some ⟨g, 0, none⟩) N0 c) (.slice (some ⟨g', 0, none⟩) N1 c') p ∧ Below W.heap.size W w') := fun W hW => by
    rw [← H0.out, ← H1.out]
    exact toProgram_any w.heap.size p a0 a1 W hW.size (HP.out.keep hW) hl
  have HU : Hid (varsOf p k = varsOf p k ∧ (varsOf p k).length ≤ 2097152 ∧ ∀ x ∈ varsOf p k, szVr x ≤ 1048576) := ⟨rfl, varsOf_len hl k, fun x hx => varsOf_sz hl hx⟩
  obtain ⟨xs, hxs⟩ : ∃ xs, Hid (varsOf p k = xs) := ⟨_, (rfl : varsOf p k = varsOf p k)⟩
  rw [hxs.out] at HU
  obtain ⟨X, HX⟩ : ∃ n, Hid (xs.length = n) := ⟨_, (rfl : xs.length = xs.length)⟩
  have hxl : X ≤ 2097152 := by rw [← HX.out]; exact HU.out.2.1
  have cS : Hid (∀ W v0 v1, RowPg W W.heap.size v0 v1 p → Calls Try.prog 43 #[.agg #[v0, v1], .int .i64 k] W fun e w' => (∃ g cap, e = .returned (.slice (some ⟨g, 0, none⟩) X cap) ∧ OwnsV w' W.heap.size (.slice (some ⟨g, 0, none⟩) X cap) xs) ∧ Below W.heap.size W w') := fun W v0 v1 h => by
    have h1 := specVarsOf_any v0 v1 p k W h HL.out.1
    rw [hxs.out, HX.out] at h1
    refine h1.mono ?_
    rintro e w' ⟨⟨g, cap, he, ho, _⟩, hb⟩
    exact ⟨⟨g, cap, he, ho⟩, hb⟩
  have cI : Hid (∀ W v0 v1, RowPg W W.heap.size v0 v1 p → Calls Try.prog 44 #[.agg #[v0, v1], .int .i64 k] W fun e w' => (∃ a cap, e = .returned (.slice a X cap) ∧ OwnsV w' W.heap.size (.slice a X cap) xs) ∧ Below W.heap.size W w') := fun W v0 v1 h => by
    have h1 := implVarsOf_any v0 v1 p k W h HL.out.1
    rw [hxs.out, HX.out] at h1
    exact h1
  have cEq : Hid (∀ W u v, OwnsV W (0 : Nat) u xs → OwnsV W (0 : Nat) v xs → Calls Try.prog 45 #[u, v] W fun e w' => e = .returned (.bool true) ∧ Below W.heap.size W w') := fun W u v h1 h2 =>
    eqVarS_len W.heap.size u v xs W (Nat.le_refl _) h1.row h2.row (by rw [HX.out]; omega) HU.out.2.2
  clear hl hr0 hr1
  have x0 := B1.out.cell 0
  have x1 := B1.out.cell 1
  simp at x0 x1
  go_wp2_with fail
  go_at_call 28
  refine Calls.mono (cT.out _ B1.out.below) ?_
  rintro e w2 ⟨g, c, g', c', rfl, ho, hb⟩
  have B2 : Hid (Box w (.cells #[a0, a1] 34) w2) := B1.out.next hb
  clear hb B1 x0 x1
  go_wp2_with fail
  go_at_call 43
  refine Calls.mono (cS.out _ _ _ ho.row) ?_
  rintro e w3 ⟨⟨gs, cs, rfl, hos⟩, hb⟩
  have B3 : Hid (Box w (.cells #[a0, a1] 34) w3) := B2.out.next hb
  have A3 : Hid (OwnsV w3 w2.heap.size (.slice (some ⟨gs, 0, none⟩) X cs) xs) := hos
  have hgs : gs < w3.heap.size := (OwnsR.lt hos gs (by simp [fpOf, Value.ownBlock])).2
  clear hb B2 ho cS hos
  have x0 := B3.out.cell 0
  have x1 := B3.out.cell 1
  simp at x0 x1
  go_wp2_with fail
  go_at_call 28
  refine Calls.mono (cT.out _ B3.out.below) ?_
  rintro e w4 ⟨g2, c2, g2', c2', rfl, ho, hb⟩
  have B4 : Hid (Box w (.cells #[a0, a1] 34) w4) := B3.out.next hb
  have A4 : Hid (OwnsV w4 w2.heap.size (.slice (some ⟨gs, 0, none⟩) X cs) xs) := OwnsR.below A3.out hb
  have P4 : Hid (OwnPg w4 w3.heap.size w4.heap.size (.slice (some ⟨g2, 0, none⟩) N0 c2) (.slice (some ⟨g2', 0, none⟩) N1 c2') p) := ho
  have hz4 : w3.heap.size ≤ w4.heap.size := hb.size
  have hw3 : w.heap.size < w3.heap.size := B3.out.lt
  clear hb B3 x0 x1 ho A3
  go_wp2_with fail
  go_at_call 44
  refine Calls.mono (cI.out _ _ _ ((P4.out.row.keep ((Below.refl _ _).alloc (Nat.le_refl _) _)).up (by simp))) ?_
  rintro e w5 ⟨⟨ga, gc, rfl, hog⟩, hb⟩
  have B5 : Hid (Box w (.cells #[a0, a1] 34) w5) := (B4.out.alloc _).next hb
  have X5 : Hid (Box w4 (.cells #[.slice (some ⟨g2, 0, none⟩) N0 c2, .slice (some ⟨g2', 0, none⟩) N1 c2'] 39) w5) := (Box.first _ _).next hb
  have A5 : Hid (OwnsV w5 w2.heap.size (.slice (some ⟨gs, 0, none⟩) X cs) xs ∧ OwnsV w5 (w4.heap.size + 1) (.slice ga X gc) xs) := ⟨OwnsR.below (World.ownsRow.alloc A4.out _) hb, owns_base hog (by simp)⟩
  have P5 : Hid (OwnPg w5 w3.heap.size w4.heap.size (.slice (some ⟨g2, 0, none⟩) N0 c2) (.slice (some ⟨g2', 0, none⟩) N1 c2') p) := P4.out.same (fun b _ h2 => (hb.block b (by simp; omega)).trans (Below.heap_alloc _ _ _ h2))
  clear hb B4 A4 P4 hog
  go_wp2_with fail
  go_at_call 45
  refine Calls.mono (cEq.out w5 _ _ A5.out.2.any A5.out.1.any) ?_
  rintro e w6 ⟨rfl, hb⟩
  have B6 : Hid (Box w (.cells #[a0, a1] 34) w6) := B5.out.next hb
  have X6 : Hid (Box w4 (.cells #[.slice (some ⟨g2, 0, none⟩) N0 c2, .slice (some ⟨g2', 0, none⟩) N1 c2'] 39) w6) := X5.out.next hb
  have A6 : Hid (OwnsV w6 w2.heap.size (.slice (some ⟨gs, 0, none⟩) X cs) xs ∧ OwnsV w6 (w4.heap.size + 1) (.slice ga X gc) xs) := ⟨OwnsR.below A5.out.1 hb, OwnsR.below A5.out.2 hb⟩
  have P6 : Hid (OwnPg w6 w3.heap.size w4.heap.size (.slice (some ⟨g2, 0, none⟩) N0 c2) (.slice (some ⟨g2', 0, none⟩) N1 c2') p) := P5.out.same (fun b _ h2 => hb.block b (by have := X5.out.lt; omega))
  have hz6 : w4.heap.size < w6.heap.size := X6.out.lt
  clear hb B5 X5 A5 P5
  have y0 : w6.cell? ⟨w4.heap.size, 0, none⟩ = some (.slice (some ⟨g2, 0, none⟩) N0 c2) := X6.out.cell 0
  have y1 : w6.cell? ⟨w4.heap.size, 1, none⟩ = some (.slice (some ⟨g2', 0, none⟩) N1 c2') := X6.out.cell 1
  have x0 : w6.cell? ⟨w.heap.size, 0, none⟩ = some a0 := B6.out.cell 0
  have x1 : w6.cell? ⟨w.heap.size, 1, none⟩ = some a1 := B6.out.cell 1
  have hlt := B6.out.lt
  go_wp2_with fail
  go_region_held3 (fun w' => (w'.cell? ⟨w4.heap.size, 0, none⟩ = some (.slice (some ⟨g2, 0, none⟩) N0 c2) ∧ w'.cell? ⟨w4.heap.size, 1, none⟩ = some (.slice (some ⟨g2', 0, none⟩) N1 c2')) ∧ w'.cell? ⟨w.heap.size, 0, none⟩ = some a0 ∧ w'.cell? ⟨w.heap.size, 1, none⟩ = some a1) (first | exact ⟨⟨y0, y1⟩, x0, x1⟩ | exact ⟨⟨(hb7.cell (p := ⟨w4.heap.size, 0, none⟩) hz6).trans y0, (hb7.cell (p := ⟨w4.heap.size, 1, none⟩) hz6).trans y1⟩, (hb7.cell (p := ⟨w.heap.size, 0, none⟩) hlt).trans x0, (hb7.cell (p := ⟨w.heap.size, 1, none⟩) hlt).trans x1⟩ | exact ⟨⟨(hb8.cell (p := ⟨w4.heap.size, 0, none⟩) (Nat.lt_of_lt_of_le hz6 hb7.size)).trans ((hb7.cell (p := ⟨w4.heap.size, 0, none⟩) hz6).trans y0), (hb8.cell (p := ⟨w4.heap.size, 1, none⟩) (Nat.lt_of_lt_of_le hz6 hb7.size)).trans ((hb7.cell (p := ⟨w4.heap.size, 1, none⟩) hz6).trans y1)⟩, (hb8.cell (p := ⟨w.heap.size, 0, none⟩) (Nat.lt_of_lt_of_le hlt hb7.size)).trans ((hb7.cell (p := ⟨w.heap.size, 0, none⟩) hlt).trans x0), (hb8.cell (p := ⟨w.heap.size, 1, none⟩) (Nat.lt_of_lt_of_le hlt hb7.size)).trans ((hb7.cell (p := ⟨w.heap.size, 1, none⟩) hlt).trans x1)⟩) (first | (go_at_call 28; refine Calls.mono (cT.out _ B6.out.below.drew) ?_; rintro e w7 ⟨g3, c3, g3', c3', rfl, ho7, hb7⟩) | (go_at_call 30; refine Calls.mono (eqProgram_same w7.heap.size p _ _ _ _ w7 (Nat.le_refl _) ((P6.out.row.keep ((Below.refl _ _).drew.trans (hb7.mono (Nat.le_of_lt hz6)))).up (Nat.le_trans (Nat.le_of_lt hz6) hb7.size)) ho7.row HL.out.1) ?_; rintro e w8 ⟨rfl, hb8⟩))
  have HB8 : Hid (Below w6.heap.size w6 w8) := (Below.refl _ _).drew.trans (hb7.trans (hb8.mono hb7.size))
  clear hb7 hb8 ho7 y0 y1 x0 x1
  have B8 : Hid (Box w (.cells #[a0, a1] 34) w8) := B6.out.next HB8.out
  have X8 : Hid (Box w4 (.cells #[.slice (some ⟨g2, 0, none⟩) N0 c2, .slice (some ⟨g2', 0, none⟩) N1 c2'] 39) w8) := X6.out.next HB8.out
  have A8 : Hid (OwnsV w8 w2.heap.size (.slice (some ⟨gs, 0, none⟩) X cs) xs ∧ OwnsV w8 (w4.heap.size + 1) (.slice ga X gc) xs) := ⟨OwnsR.below A6.out.1 HB8.out, OwnsR.below A6.out.2 HB8.out⟩
  have P8 : Hid (OwnPg w8 w3.heap.size w4.heap.size (.slice (some ⟨g2, 0, none⟩) N0 c2) (.slice (some ⟨g2', 0, none⟩) N1 c2') p) := P6.out.same (fun b _ h2 => HB8.out.block b (by omega))
  have hz8 := X8.out.lt
  clear B6 X6 A6 P6 HB8
  have y0 := X8.out.cell 0
  have y1 := X8.out.cell 1
  simp at y0 y1
  go_wp2_with fail
  go_at_call 34
  refine Calls.mono (markProgram_any w3.heap.size w4.heap.size _ _ p w8 P8.out (by omega) HL.out.1) ?_
  rintro e w9 ⟨⟨km, rfl, _, _⟩, hrim⟩
  have B9 : Hid (Box w (.cells #[a0, a1] 34) w9) := ⟨B8.out.b.trans ((hrim.below (by omega)).mono (by omega))⟩
  have A9 : Hid (OwnsV w9 w2.heap.size (.slice (some ⟨gs, 0, none⟩) X cs) xs ∧ OwnsV w9 (w4.heap.size + 1) (.slice ga X gc) xs) :=
    ⟨OwnsV.rim A8.out.1 hrim (fun b hb => by have : b = gs := by simpa [fpOf, Value.ownBlock] using hb
                                             omega), OwnsV.rim A8.out.2 hrim (fun b hb => by have := (OwnsR.lt A8.out.2 b hb).1; omega)⟩
  clear hrim B8 X8 A8 P8 y0 y1
  have hkn : ¬ (km : Int) < 0 := by omega
  go_wp2_with fail
  go_at_call 45
  refine Calls.mono (cEq.out w9 _ _ A9.out.2.any A9.out.1.any) ?_
  rintro e w10 ⟨rfl, hb⟩
  have B10 : Hid (Box w (.cells #[a0, a1] 34) w10) := B9.out.next hb
  have A10 : Hid (OwnsV w10 w2.heap.size (.slice (some ⟨gs, 0, none⟩) X cs) xs ∧ OwnsV w10 (w4.heap.size + 1) (.slice ga X gc) xs) := ⟨OwnsR.below A9.out.1 hb, OwnsR.below A9.out.2 hb⟩
  clear hb B9 A9
  go_wp2_with fail
  go_at_call 46
  refine Calls.mono (markVarS_any (w4.heap.size + 1) (.slice ga X gc) 1 xs w10 (by rw [markN_Vr, HX.out]; omega) (by omega) A10.out.2.phys (by rw [all_flatVr, fps_one]; exact fpOf_nodup _)) ?_
  rintro e w11 ⟨rfl, hom, hk⟩
  rw [all_flatVr] at hk
  have hvg : ∀ b ∈ fpOf (.slice ga X gc), w4.heap.size + 1 ≤ b := fun b hb => (OwnsR.lt A10.out.2 b hb).1
  have B11 : Hid (Box w (.cells #[a0, a1] 34) w11) := ⟨B10.out.b.trans (hk.below (by have := B10.out.lt; omega) (fun b hb => by rw [fps_one] at hb; have := hvg b hb; omega))⟩
  have A11 : Hid (OwnsV w11 w2.heap.size (.slice (some ⟨gs, 0, none⟩) X cs) xs ∧ OwnsV w11 (w4.heap.size + 1) (.slice ga X gc) (markL mkVr lnVr 1 xs)) :=
    ⟨OwnsV.keptBy A10.out.1 hk (fun b hb hm => by have : b = gs := by simpa [fpOf, Value.ownBlock] using hb
                                                  have := hvg b hm
                                                  omega), hom.1⟩
  obtain ⟨Y, hY⟩ : ∃ y : Nat, Hid (1 + markN lnVr xs = y) := ⟨_, (rfl : 1 + markN lnVr xs = 1 + markN lnVr xs)⟩
  rw [hY.out]
  have hYb : Y ≤ 1000000000 := by have := hY.out; rw [markN_Vr, HX.out] at this; omega
  clear hk hom B10 A10 hvg
  have cH : Hid (∀ W, OwnsV W (w4.heap.size + 1) (.slice ga X gc) (markL mkVr lnVr 1 xs) → Calls Try.prog 47 #[(.slice ga X gc), .int .i64 ((1 : Nat) : Int)] W fun e' w' => e' = .returned (.int .i64 (Y : Int)) ∧ Below W.heap.size W w') := fun W h => by
    have := heldVarS_any W.heap.size (.slice ga X gc) 1 xs W (Nat.le_refl _) (by rw [markN_Vr, HX.out]; omega) (by omega) h.row
    rw [hY.out] at this
    exact this
  go_wp2_with fail
  go_at_call 47
  refine Calls.mono (cH.out _ A11.out.2) ?_
  rintro e w12 ⟨rfl, hb⟩
  have B12 : Hid (Box w (.cells #[a0, a1] 34) w12) := B11.out.next hb
  have A12 : Hid (OwnsV w12 w2.heap.size (.slice (some ⟨gs, 0, none⟩) X cs) xs ∧ OwnsV w12 (w4.heap.size + 1) (.slice ga X gc) (markL mkVr lnVr 1 xs)) := ⟨OwnsR.below A11.out.1 hb, OwnsR.below A11.out.2 hb⟩
  clear hb B11 A11
  have hYn : ¬ (Y : Int) < 0 := by omega
  have x0 := B12.out.cell 0
  have x1 := B12.out.cell 1
  simp at x0 x1
  go_wp2_with fail
  go_at_call 28
  refine Calls.mono (cT.out _ B12.out.below) ?_
  rintro e w13 ⟨g5, c5, g5', c5', rfl, ho, hb⟩
  have B13 : Hid (Box w (.cells #[a0, a1] 34) w13) := B12.out.next hb
  have A13 : Hid (OwnsV w13 w2.heap.size (.slice (some ⟨gs, 0, none⟩) X cs) xs ∧ OwnsV w13 (w4.heap.size + 1) (.slice ga X gc) (markL mkVr lnVr 1 xs)) := ⟨OwnsR.below A12.out.1 hb, OwnsR.below A12.out.2 hb⟩
  clear hb B12 A12 x0 x1 cT
  go_wp2_with fail
  go_at_call 44
  refine Calls.mono (cI.out _ _ _ ho.row) ?_
  rintro e w14 ⟨⟨ha, hc, rfl, hoh⟩, hb⟩
  have B14 : Hid (Box w (.cells #[a0, a1] 34) w14) := B13.out.next hb
  have A14 : Hid (OwnsV w14 w2.heap.size (.slice (some ⟨gs, 0, none⟩) X cs) xs ∧ OwnsV w14 (w4.heap.size + 1) (.slice ga X gc) (markL mkVr lnVr 1 xs) ∧ OwnsV w14 w13.heap.size (.slice ha X hc) xs) := ⟨OwnsR.below A13.out.1 hb, OwnsR.below A13.out.2 hb, hoh⟩
  clear hb B13 A13 ho hoh cI
  go_wp2_with fail
  go_at_call 45
  refine Calls.mono (cEq.out w14 _ _ A14.out.2.2.any A14.out.1.any) ?_
  rintro e w15 ⟨rfl, hb⟩
  have B15 : Hid (Box w (.cells #[a0, a1] 34) w15) := B14.out.next hb
  have A15 : Hid (OwnsV w15 (w4.heap.size + 1) (.slice ga X gc) (markL mkVr lnVr 1 xs)) := OwnsR.below A14.out.2.1 hb
  clear hb B14 A14
  go_wp2_with fail
  go_at_call 47
  refine Calls.mono (cH.out _ A15.out) ?_
  rintro e w16 ⟨rfl, hb⟩
  have B16 : Hid (Box w (.cells #[a0, a1] 34) w16) := B15.out.next hb
  clear hb B15 A15
  go_wp2
  go_ret
  exact ⟨rfl, B16.out.below⟩

end Go.Proofs.Ytjafneaaefpefaa
