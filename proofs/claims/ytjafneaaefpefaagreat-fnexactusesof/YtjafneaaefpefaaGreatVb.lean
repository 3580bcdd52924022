/-
  Rows of numbers of the call's own: stored over, sorted, without what comes twice, cut short: in the library's words and in these texts'.
  UsesOf's helpers, in the program and in the library: the test that it hands over, rows joined, elements struck.
  strings.Clone: the same text, in new memory.
  VarsOf, in the program: params, then what is let under the Body, each with a name of its own.
-/
import Derived.Test.YtjafneaaefpefaaGreatVa
import Derived.Test.YtjafneaaefpefaaGreatShelf
import Derived.Lib.SortBridge
import Derived.Lib.SliceRun
import Derived.Test.YtjafneaaefpefaaGreatDe
import Derived.Lib.AppendZeros
import Derived.Laws.AppendOwnNone
import Derived.Test.YtjafneaaefpefaaGreatChecked
import Derived.Test.YtjafneaaefpefaaGreatKa
import Derived.Test.YtjafneaaefpefaaGreatPr
namespace Go.Proofs.YtjafneaaefpefaaGreat
open Go.RowKit

def setAll : List Value → Nat → List Value → List Value
  | xs, _, [] => xs
  | xs, o, v :: vs => setAll (xs.set o v) (o + 1) vs
theorem setAll_past : ∀ (vs xs : List Value) (o : Nat), xs.length ≤ o → setAll xs o vs = xs := by
  intro vs
  induction vs with
  | nil => intro xs o _; rfl
  | cons v vs ih =>
    intro xs o h
    simp only [setAll]
    rw [List.set_eq_of_length_le h]
    exact ih xs (o + 1) (by omega)
theorem setAll_mid : ∀ (vs pre mid : List Value), mid.length = vs.length → setAll (pre ++ mid) pre.length vs = pre ++ vs := by
  intro vs
  induction vs with
  | nil =>
    intro pre mid h
    have hm : mid = [] := List.eq_nil_of_length_eq_zero (by simpa using h)
    subst hm
    rfl
  | cons v vs ih =>
    intro pre mid h
    match mid, h with
    | m :: ms, h =>
      simp only [setAll]
      have h1 : (pre ++ m :: ms).set pre.length v = (pre ++ [v]) ++ ms := by
        rw [List.set_append_right _ _ (Nat.le_refl _), Nat.sub_self, List.set_cons_zero, List.append_assoc]
        rfl
      have h2 := ih (pre ++ [v]) ms (by simpa using h)
      rw [h1, show pre.length + 1 = (pre ++ [v]).length by simp, h2, List.append_assoc]
      rfl
theorem setAll_all {vs xs : List Value} (h : xs.length = vs.length) : setAll xs 0 vs = vs := setAll_mid vs [] xs h
theorem owns_setCells {B g n cap : Nat} {e : TypeId} : ∀ (vs xs : List Value) (o : Nat) (w : World), w.ownsRow B e 1 (.slice (some ⟨g, 0, none⟩) n cap) n xs →
    (w.setCells g o vs).ownsRow B e 1 (.slice (some ⟨g, 0, none⟩) n cap) n (setAll xs o vs) ∧ w.grownBy (w.setCells g o vs) (some g) := by
  intro vs
  induction vs with
  | nil => intro xs o w h; exact ⟨h, World.grownBy.refl _ _⟩
  | cons v vs ih =>
    intro xs o w h
    have h1 := World.ownsRow.stored h o v
    have h2 := ih (xs.set o v) (o + 1) _ h1.1
    exact ⟨h2.1, grown_trans h1.2 h2.2 (.inr rfl) (.inr rfl)⟩
theorem inC_flat (xs : List Int) : xs.flatMap inC = xs.map (Value.int .i64) := by
  induction xs with
  | nil => rfl
  | cons x xs ih => simp [inC, ih]
/-- A row of one's own, cut short. -/
theorem OwnsI.cut {w : World} {B g n cap : Nat} {xs : List Int} (h : OwnsI w B (.slice (some ⟨g, 0, none⟩) n cap) xs) (m : Nat) (hm : m ≤ xs.length) : OwnsI w B (.slice (some ⟨g, 0, none⟩) m cap) (xs.take m) := by
  obtain ⟨hl, h2⟩ := h
  rcases h2 with ⟨h0, _⟩ | ⟨g', cap', cur, hv, hbg, hg, hnc, hcm, hcs, htake⟩
  · cases h0
  · cases hv
    have hml : (xs.take m).length = m := by rw [List.length_take]; omega
    refine ⟨flat_len inC_len _, .inr ⟨g, cap, cur, by rw [hml], hbg, hg, by rw [hml]; omega, hcm, hcs, ?_⟩⟩
    rw [hml, Nat.mul_one, inC_flat, List.map_take, ← inC_flat, ← htake, List.take_take, Nat.mul_one, Nat.min_eq_left hm]
theorem OwnsI.over {w : World} {B g n cap : Nat} {xs : List Int} (h : OwnsI w B (.slice (some ⟨g, 0, none⟩) n cap) xs) (ys : List Int) (hy : ys.length = xs.length) :
    OwnsI (w.setCells g 0 (ys.map (Value.int .i64))) B (.slice (some ⟨g, 0, none⟩) n cap) ys ∧ w.grownBy (w.setCells g 0 (ys.map (Value.int .i64))) (some g) := by
  have hn : n = xs.length := by
    rcases OwnsR.form h with ⟨h0, _⟩ | ⟨g', c', h0, _⟩
    · cases h0
    · cases h0
      rfl
  subst hn
  have h1 := owns_setCells (ys.map (Value.int .i64)) _ 0 w h
  refine ⟨?_, h1.2⟩
  have h2 := h1.1
  rw [setAll_all (by rw [flat_len inC_len, List.length_map, hy, Nat.mul_one])] at h2
  unfold OwnsI OwnsR
  rw [inC_flat, hy]
  exact h2
theorem OwnsI.past {w : World} {B g n cap : Nat} {xs : List Int} (h : OwnsI w B (.slice (some ⟨g, 0, none⟩) n cap) xs) (vs : List Value) (o : Nat) (ho : xs.length ≤ o) :
    OwnsI (w.setCells g o vs) B (.slice (some ⟨g, 0, none⟩) n cap) xs := by
  have hn : n = xs.length := by
    rcases OwnsR.form h with ⟨h0, _⟩ | ⟨g', c', h0, _⟩
    · cases h0
    · cases h0
      rfl
  subst hn
  have h1 := (owns_setCells vs _ o w h).1
  rw [setAll_past _ _ _ (by rw [flat_len inC_len]; omega)] at h1
  exact h1
theorem OwnsI.capLe {w : World} {B g n cap : Nat} {xs : List Int} (h : OwnsI w B (.slice (some ⟨g, 0, none⟩) n cap) xs) : n = xs.length ∧ n ≤ cap := by
  have h1 := OwnsR.capOf h
  rcases OwnsR.form h with ⟨h0, _⟩ | ⟨g', c', h0, _⟩
  · cases h0
  · cases h0
    exact ⟨rfl, h1⟩
theorem holds_owns {w : World} {B g n cap : Nat} {zs : List Int} (h : OwnsI w B (.slice (some ⟨g, 0, none⟩) n cap) zs) : Sort.Holds (Value.int .i64) w g 0 zs.toArray := by
  have hn := h.capLe.1
  subst hn
  intro j hj
  have hj' : j < zs.length := by simpa using hj
  refine ⟨?_, ?_⟩
  · have h1 := OwnsR.cell inC_len h rfl j 0 hj' (by omega)
    simp [inC] at h1
    rw [Nat.zero_add, h1]
    simp [hj']
  · exact World.ownsRow.frozenAt h (0 + j)
theorem grown_grow (w : World) (os : Array Obj) : w.grownBy (Sort.grow w os) none :=
  ⟨rfl, rfl, rfl, by simp [Sort.grow], fun k hk _ => Sort.heap_grow_old w os hk⟩
theorem le_trans_int : ∀ a b c : Int, decide (a ≤ b) = true → decide (b ≤ c) = true → decide (a ≤ c) = true := by
  intro a b c h1 h2
  simp at *
  omega
theorem le_total_int : ∀ a b : Int, (decide (a ≤ b) || decide (b ≤ a)) = true := by
  intro a b
  simp
  omega
/-- slices.Sort, of a row of one's own. -/
theorem sortI_any (B : Nat) (a : Option Addr) (n cap : Nat) (zs : List Int) (w : World) (h : OwnsI w B (.slice a n cap) zs) (hl : zs.length ≤ 4611686018427387903) :
    Calls Tryz.prog 36 #[.slice a n cap] w fun e w' => e = .returned (.tuple #[]) ∧ OwnsI w' B (.slice a n cap) (zs.mergeSort fun x y => decide (x ≤ y)) ∧ w.grownBy w' (Value.slice a n cap).ownBlock := by
  rcases OwnsR.form h with ⟨h0, h1⟩ | ⟨g, c, h0, hbg, hg⟩
  · cases h0
    subst h1
    refine (Tryz.slices_Sort_int_none none 0 w).mono ?_
    rintro e w' ⟨rfl, rfl⟩
    exact ⟨rfl, by simpa using h, World.grownBy.refl _ _⟩
  · cases h0
    have hH := holds_owns h
    refine (Tryz.slices_Sort_int g 0 cap zs w hH hg (by omega)).mono ?_
    rintro e w' ⟨rfl, q, os, rfl⟩
    have hlen : (zs.mergeSort fun x y => decide (x ≤ y)).length = zs.toArray.size := by rw [List.length_mergeSort]; simp
    rw [Lib.sorted_world (Value.int .i64) w g 0 q zs.toArray _ os hH hlen]
    have h2 := OwnsI.over (OwnsR.below h (below_grown (grown_drewN w q))) (zs.mergeSort fun x y => decide (x ≤ y)) (List.length_mergeSort _)
    refine ⟨rfl, OwnsR.kept h2.1 (grown_grow _ os) (.inr (by simp [Value.ownBlock])), ?_⟩
    exact grown_trans (grown_drewN w q) (grown_trans h2.2 (grown_grow _ os) (.inr rfl) (.inl rfl)) (.inl rfl) (.inr rfl)
/-- slices.Compact, of a row of one's own. -/
theorem compactI_any (B : Nat) (a : Option Addr) (n cap : Nat) (zs : List Int) (w : World) (h : OwnsI w B (.slice a n cap) zs) (hl : zs.length ≤ 9223372036854775807) :
    Calls Tryz.prog 37 #[.slice a n cap] w fun e w' => e = .returned (.slice a (Lib.compact zs).length cap) ∧ OwnsI w' B (.slice a (Lib.compact zs).length cap) (Lib.compact zs) ∧ w.grownBy w' (Value.slice a n cap).ownBlock := by
  rcases OwnsR.form h with ⟨h0, h1⟩ | ⟨g, c, h0, hbg, hg⟩
  · cases h0
    subst h1
    refine (Tryz.slices_Compact_int_empty none 0 w).mono ?_
    rintro e w' ⟨rfl, rfl⟩
    exact ⟨rfl, h, World.grownBy.refl _ _⟩
  · cases h0
    have hH := holds_owns h
    refine (Tryz.slices_Compact_int g 0 cap zs w hH hl h.capLe.2).mono ?_
    rintro e w' ⟨rfl, q, rfl⟩
    have hcl := Lib.compact_length_le zs
    have hlen : (Lib.compact zs ++ List.replicate (zs.length - (Lib.compact zs).length) (0 : Int)).length = zs.length := by
      rw [List.length_append, List.length_replicate]
      omega
    rw [Lib.putRow_eq_setCells (Value.int .i64) w g 0 zs.toArray _ q hH (by rw [hlen]; simp)]
    have h2 := OwnsI.over (OwnsR.below h (below_grown (grown_drewN w q))) _ hlen
    have h3 := OwnsI.cut h2.1 (Lib.compact zs).length (by rw [List.length_append]; omega)
    rw [List.take_left' rfl] at h3
    exact ⟨rfl, h3, grown_trans (grown_drewN w q) h2.2 (.inl rfl) (.inr rfl)⟩

theorem compact_mem_at (zs : List Int) (x : Int) : x ∈ Lib.compact zs ↔ ∃ j, j < zs.length ∧ Lib.keeps zs.toArray j = true ∧ zs.toArray[j]! = x := by
  unfold Lib.compact Lib.compactUpTo
  simp only [List.mem_map, List.mem_filter, List.mem_range]
  constructor
  · rintro ⟨j, ⟨h1, h2⟩, h3⟩
    exact ⟨j, h1, h2, h3⟩
  · rintro ⟨j, h1, h2, h3⟩
    exact ⟨j, ⟨h1, h2⟩, h3⟩
theorem arr_at (zs : List Int) (j : Nat) (h : j < zs.length) : zs.toArray[j]! = zs[j] := by simp [h]
theorem le_at {zs : List Int} (h : zs.Pairwise (· ≤ ·)) {i j : Nat} (hj : j < zs.length) (hi : i ≤ j) : zs[i] ≤ zs[j] := by
  rcases Nat.lt_or_ge i j with h1 | h1
  · exact List.pairwise_iff_getElem.mp h i j (by omega) hj h1
  · have : i = j := by omega
    subst this
    omega
theorem compact_asc {zs : List Int} (h : zs.Pairwise (· ≤ ·)) : (Lib.compact zs).Pairwise (· < ·) := by
  unfold Lib.compact Lib.compactUpTo
  rw [List.pairwise_map]
  have h1 : ((List.range zs.length).filter (Lib.keeps zs.toArray)).Pairwise (fun i j => i < j ∧ j < zs.length ∧ Lib.keeps zs.toArray j = true) := by
    have h2 : (List.range zs.length).Pairwise (· < ·) := List.pairwise_lt_range
    refine ((h2.filter (Lib.keeps zs.toArray)).imp_of_mem ?_)
    intro a b _ hb hab
    have hb' := List.mem_filter.mp hb
    exact ⟨hab, List.mem_range.mp hb'.1, hb'.2⟩
  refine h1.imp ?_
  rintro i j ⟨hij, hj, hk⟩
  rw [arr_at zs i (by omega), arr_at zs j hj]
  unfold Lib.keeps at hk
  simp only [decide_eq_true_eq] at hk
  rcases hk with hk | hk
  · omega
  · rw [arr_at zs j hj, arr_at zs (j - 1) (by omega)] at hk
    have h2 := le_at h (i := i) (j := j - 1) (by omega) (by omega)
    have h3 := le_at h (i := j - 1) (j := j) hj (by omega)
    omega
theorem compact_mem {zs : List Int} (x : Int) : x ∈ Lib.compact zs ↔ x ∈ zs := by
  rw [compact_mem_at]
  constructor
  · rintro ⟨j, hj, _, rfl⟩
    rw [arr_at zs j hj]
    exact List.getElem_mem hj
  · intro hx
    obtain ⟨j, hj, rfl⟩ := List.getElem_of_mem hx
    have key : ∀ m j, j ≤ m → (hj : j < zs.length) → ∃ i, i < zs.length ∧ Lib.keeps zs.toArray i = true ∧ zs.toArray[i]! = zs[j] := by
      intro m
      induction m with
      | zero =>
        intro j hjm hj
        have : j = 0 := by omega
        subst this
        exact ⟨0, hj, by simp [Lib.keeps], arr_at zs 0 hj⟩
      | succ m ih =>
        intro j hjm hj
        by_cases hk : Lib.keeps zs.toArray j = true
        · exact ⟨j, hj, hk, arr_at zs j hj⟩
        · unfold Lib.keeps at hk
          simp only [decide_eq_true_eq] at hk
          have h0 : j ≠ 0 := fun e => hk (.inl e)
          have h1 : zs.toArray[j]! = zs.toArray[j - 1]! := Classical.byContradiction fun e => hk (.inr e)
          obtain ⟨i, hi, hki, he⟩ := ih (j - 1) (by omega) (by omega)
          refine ⟨i, hi, hki, ?_⟩
          rw [he, ← arr_at zs (j - 1) (by omega), ← h1, arr_at zs j hj]
    exact key j j (Nat.le_refl _) hj
theorem compact_sort (xs ys : List Int) : Lib.compact ((xs ++ ys).mergeSort fun x y => decide (x ≤ y)) = allL xs ys := by
  refine allIn_one (xs := xs) (ys := ys) ⟨?_, fun x => ?_⟩ (allL_in xs ys)
  · refine compact_asc ?_
    have h1 := List.pairwise_mergeSort (le := fun x y : Int => decide (x ≤ y)) le_trans_int le_total_int (xs ++ ys)
    exact h1.imp (fun h => by simpa using h)
  · rw [compact_mem, List.mem_mergeSort, List.mem_append]

end Go.Proofs.YtjafneaaefpefaaGreat

namespace Go.Proofs.YtjafneaaefpefaaGreat
open Go.RowKit

theorem usesName_any (k : Int) (w : World) :
    Calls Tryz.prog 40 #[.int .i64 k] w fun e w' => e = .returned (.bool (usesK k)) ∧ w' = w := by
  by_cases h2 : k = 2
  · subst h2
    go_enter Tryz.func40, Tryz.ntmps40
    go_wp2
    go_ret
    exact ⟨rfl, rfl⟩
  by_cases h3 : k = 3
  · subst h3
    go_enter Tryz.func40, Tryz.ntmps40
    go_wp2
    go_ret
    exact ⟨rfl, rfl⟩
  by_cases h4 : k = 4
  · subst h4
    go_enter Tryz.func40, Tryz.ntmps40
    go_wp2
    go_ret
    exact ⟨rfl, rfl⟩
  by_cases h5 : k = 5
  · subst h5
    go_enter Tryz.func40, Tryz.ntmps40
    go_wp2
    go_ret
    exact ⟨rfl, rfl⟩
  by_cases h6 : k = 6
  · subst h6
    go_enter Tryz.func40, Tryz.ntmps40
    go_wp2
    go_ret
    exact ⟨rfl, rfl⟩
  by_cases h14 : k = 14
  · subst h14
    go_enter Tryz.func40, Tryz.ntmps40
    go_wp2
    go_ret
    exact ⟨rfl, rfl⟩
  by_cases h15 : k = 15
  · subst h15
    go_enter Tryz.func40, Tryz.ntmps40
    go_wp2
    go_ret
    exact ⟨rfl, rfl⟩
  have hE : Hid (usesK k = false) := by
    show _ = _
    simp [usesK, h2, h3, h4, h5, h6, h14, h15]
  rw [hE.out]
  go_enter Tryz.func40, Tryz.ntmps40
  go_wp2
  go_ret
  exact ⟨rfl, rfl⟩

/-- Where the test that UsesOf hands over finds what it reads: all of it below block U. -/
structure UsesAt (ns : List Nd) (nm : ByteArray) (bp bn : Nat) (na : Option Addr) (N nc U : Nat) (w : World) : Prop where
  p : w.cell? ⟨bp, 0, none⟩ = some (.slice na N nc)
  n : w.cell? ⟨bn, 0, none⟩ = some (.string nm)
  row : NdR.Row w U (.slice na N nc) ns
  lp : bp < U
  ln : bn < U
theorem UsesAt.keep {ns : List Nd} {nm : ByteArray} {bp bn : Nat} {na : Option Addr} {N nc U : Nat} {w w' : World} (h : UsesAt ns nm bp bn na N nc U w) (hb : Below U w w') : UsesAt ns nm bp bn na N nc U w' :=
  ⟨(hb.cell (p := ⟨bp, 0, none⟩) h.lp).trans h.p, (hb.cell (p := ⟨bn, 0, none⟩) h.ln).trans h.n, h.row.keep hb, h.lp, h.ln⟩

set_option maxRecDepth 100000 in
set_option maxHeartbeats 3200000 in
/-- The test: a node that does not use the name is struck. -/
theorem uses1_any (ns : List Nd) (nm : ByteArray) (bp bn : Nat) (na : Option Addr) (N nc U j : Nat) (w : World) (h : UsesAt ns nm bp bn na N nc U w) (hj : j < ns.length) :
    Calls Tryz.prog 39 #[.int .i64 (j : Int), .pointer (some ⟨bp, 0, none⟩), .pointer (some ⟨bn, 0, none⟩)] w fun e w' => e = .returned (.bool (!usesB ns nm (j : Int))) ∧ ∃ m, w' = w.drewN m := by
  obtain ⟨c0, cn, hR, _, _⟩ := h
  have hN : N = ns.length := by
    obtain ⟨a, c, e⟩ := hR.len
    cases e
    rfl
  have hj0 : (0 : Int) ≤ (j : Int) := by omega
  have hj1 : (j : Int) < (N : Int) := by omega
  obtain ⟨nb, no, ka, kc, rfl, hnb, n0, n1, n2, n3, _⟩ := RowNd.at hR j hj
  have hub : usesB ns nm (j : Int) = (usesK ns[j].kind && sameB ns[j].name nm) := by
    unfold usesB
    rw [Int.toNat_natCast]
    simp [List.getD, hj]
  rw [hub]
  obtain ⟨nx, hnx⟩ : ∃ nx, Hid (ns[j].name = nx) := ⟨_, (rfl : ns[j].name = ns[j].name)⟩
  obtain ⟨kx, hkx⟩ : ∃ kx, Hid (ns[j].kind = kx) := ⟨_, (rfl : ns[j].kind = ns[j].kind)⟩
  rw [hkx.out, hnx.out]
  rw [hkx.out] at n0
  rw [hnx.out] at n2
  clear n1 n3 hub hR hN
  have cK : Hid (∀ W, Calls Tryz.prog 40 #[.int .i64 kx] W fun e w' => e = .returned (.bool (usesK kx)) ∧ w' = W) := fun W => usesName_any kx W
  cases hu : usesK kx
  · rw [hu] at cK
    go_enter Tryz.func39, Tryz.ntmps39
    go_wp2_with (go_quiet ((go_at_call 40; refine Calls.quiet_of_same (cK.out _))))
    go_ret
    exact ⟨rfl, _, rfl⟩
  · rw [hu] at cK
    cases hn : sameB nx nm
    · unfold sameB at hn
      go_enter Tryz.func39, Tryz.ntmps39
      go_wp2_with (go_quiet ((go_at_call 40; refine Calls.quiet_of_same (cK.out _))))
      go_ret
      exact ⟨rfl, _, rfl⟩
    · unfold sameB at hn
      go_enter Tryz.func39, Tryz.ntmps39
      go_wp2_with (go_quiet ((go_at_call 40; refine Calls.quiet_of_same (cK.out _))))
      go_ret
      exact ⟨rfl, _, rfl⟩

set_option maxRecDepth 100000 in
set_option maxHeartbeats 3200000 in
/-- slices.IndexFunc with that test: the first element that is struck, or -1. -/
theorem indexI_any (ns : List Nd) (nm : ByteArray) (bp bn : Nat) (na : Option Addr) (N nc U : Nat) (a : Option Addr) (n cap : Nat) (zs : List Int) (w : World) (h : UsesAt ns nm bp bn na N nc U w) (hU : U ≤ w.heap.size)
    (hv : RowI w w.heap.size (.slice a n cap) zs) (hz : ∀ x ∈ zs, 0 ≤ x ∧ x < (ns.length : Int)) (hl : zs.length ≤ 4194304) :
    Calls Tryz.prog 69 #[.slice a n cap, .func (.func 39) #[] #[.pointer (some ⟨bp, 0, none⟩), .pointer (some ⟨bn, 0, none⟩)]] w fun e w' =>
      (∃ r : Int, e = .returned (.int .i64 r) ∧ ((r = -1 ∧ ∀ x ∈ zs, usesB ns nm x = true) ∨ ∃ i : Nat, r = (i : Int) ∧ ∃ hi : i < zs.length, usesB ns nm zs[i] = false ∧ ∀ j, (hj : j < zs.length) → j < i → usesB ns nm zs[j] = true)) ∧ Below w.heap.size w w' := by
  have hn := hv.cap.1
  obtain ⟨X, hX⟩ : ∃ X, X = n := ⟨_, rfl⟩
  subst hX
  have HX : Hid (zs.length = X) := hn
  have HV : Hid (RowI w w.heap.size (.slice a X cap) zs ∧ ∀ x ∈ zs, 0 ≤ x ∧ x < (ns.length : Int)) := ⟨hv, hz⟩
  have HU : Hid (UsesAt ns nm bp bn na N nc U w) := h
  rw [hn] at hl
  clear hv hz h hn
  go_enter Tryz.func69, Tryz.ntmps69
  go_wp2
  go_loopw [8] (fun i wr => ∃ k : Nat, k ≤ X ∧ i = .int .i64 (k : Int) ∧ Hid (∀ j, (hj : j < zs.length) → j < k → usesB ns nm zs[j] = true) ∧ Below w.heap.size w wr) (fun i _ => X - (intOf i).toNat)
  case atStart => exact ⟨0, Nat.zero_le _, rfl, fun j _ hj => by omega, Below.refl _ _⟩
  case round =>
    obtain ⟨k, hk, rfl, HK, hbw⟩ := hrel
    by_cases hlt : k < X
    · have hk1 : (k : Int) < (X : Int) := by omega
      have hk0 : (0 : Int) ≤ (k : Int) := by omega
      have hkl : k < zs.length := by have := HX.out; omega
      obtain ⟨b, off, rfl, hb, c0⟩ := RowI.at HV.out.1 k hkl
      have hxj := HV.out.2 zs[k] (List.getElem_mem hkl)
      obtain ⟨j, hj⟩ : ∃ j : Nat, Hid (zs[k] = (j : Int)) := ⟨zs[k].toNat, (by show _ = _; omega)⟩
      rw [hj.out] at c0 hxj
      have d0 := (hbw.cell (p := ⟨b, off + k, none⟩) (by show b < _; omega)).trans c0
      have hsz := hbw.size
      obtain ⟨r, hr⟩ : ∃ r, Hid (usesB ns nm (j : Int) = r) := ⟨_, (rfl : usesB ns nm (j : Int) = usesB ns nm (j : Int))⟩
      have cQ : Hid (Calls Tryz.prog 39 #[.int .i64 (j : Int), .pointer (some ⟨bp, 0, none⟩), .pointer (some ⟨bn, 0, none⟩)] wr fun e w' => e = .returned (.bool (!r)) ∧ ∃ m, w' = wr.drewN m) := by
        have := uses1_any ns nm bp bn na N nc U j wr (HU.out.keep (hbw.mono hU)) (by omega)
        rw [hr.out] at this
        exact this
      clear c0
      go_wp2_with fail
      go_at_call 39
      refine Calls.mono cQ.out ?_
      rintro e w1 ⟨rfl, q, rfl⟩
      have HB1 : Hid (Below w.heap.size w (wr.drewN q)) := hbw.trans ((below_grown (grown_drewN wr q)).mono hsz)
      generalize wr.drewN q = w1 at HB1 ⊢
      clear cQ d0 hbw
      cases r
      · have HF : Hid (∃ i : Nat, (k : Int) = (i : Int) ∧ ∃ hi : i < zs.length, usesB ns nm zs[i] = false ∧ ∀ j, (hj : j < zs.length) → j < i → usesB ns nm zs[j] = true) := ⟨k, rfl, hkl, by rw [hj.out]; exact hr.out, HK.out⟩
        go_wp2
        go_ret
        exact ⟨⟨_, rfl, .inr HF.out⟩, HB1.out⟩
      · have HK1 : Hid (∀ j, (hj : j < zs.length) → j < k + 1 → usesB ns nm zs[j] = true) := fun i hi hik => by
          by_cases e : i = k
          · subst e
            rw [hj.out]
            exact hr.out
          · exact HK.out i hi (by omega)
        go_wp2
        go_roundw
        case rel => exact ⟨k + 1, by omega, by go_num, HK1, HB1.out⟩
        case measure => simp [intOf]; omega
    · have HF : Hid (∀ x ∈ zs, usesB ns nm x = true) := fun x hx => by
        obtain ⟨i, hi, rfl⟩ := List.getElem_of_mem hx
        exact HK.out i hi (by have := HX.out; omega)
      go_wp2
      go_ret
      exact ⟨⟨_, rfl, .inl ⟨rfl, HF.out⟩⟩, hbw⟩

end Go.Proofs.YtjafneaaefpefaaGreat

namespace Go.Proofs.YtjafneaaefpefaaGreat
open Go.RowKit

theorem Clone_any (s : ByteArray) (w : World) (hlim : s.size ≤ 281474976710656) :
    Calls Tryz.prog 60 #[.string s] w fun e w' => e = .returned (.string s) ∧ Below w.heap.size w w' := by
  go_enter Tryz.func60, Tryz.ntmps60
  go_wp2_with (go_at_call 89; refine (Tryz.stringslite_Clone s _ hlim).mono ?_; rintro e w1 ⟨rfl, hb1⟩)
  go_ret
  exact ⟨rfl, hb1⟩

end Go.Proofs.YtjafneaaefpefaaGreat

namespace Go.Proofs.YtjafneaaefpefaaGreat
open Go.RowKit

theorem isFn_any (v0 : Value) (fa : Option Addr) (F fcap : Nat) (fn : Int) (w : World) :
    Calls Tryz.prog 33 #[.agg #[v0, .slice fa F fcap], .int .i64 fn] w fun e w' => e = .returned (.bool (isIn fn 0 ((F : Int) - 1))) ∧ Below w.heap.size w w' := by
  by_cases h0 : 0 ≤ fn
  · by_cases h1 : fn < (F : Int)
    · have hE : Hid (isIn fn 0 ((F : Int) - 1) = true) := by
        show _ = _
        rw [isIn_iff]
        omega
      rw [hE.out]
      have d0 : decide ((0 : Int) ≤ fn) = true := by simpa using h0
      go_enter Tryz.func33, Tryz.ntmps33
      go_wp2
      go_ret
      exact ⟨rfl, by go_grown⟩
    · have hE : Hid (isIn fn 0 ((F : Int) - 1) = false) := by
        show _ = _
        simp [isIn]
        omega
      rw [hE.out]
      have d0 : decide ((0 : Int) ≤ fn) = true := by simpa using h0
      go_enter Tryz.func33, Tryz.ntmps33
      go_wp2
      go_ret
      exact ⟨rfl, by go_grown⟩
  · have hE : Hid (isIn fn 0 ((F : Int) - 1) = false) := by
      show _ = _
      simp [isIn]
      omega
    rw [hE.out]
    have d0 : decide ((0 : Int) ≤ fn) = false := by simpa using h0
    go_enter Tryz.func33, Tryz.ntmps33
    go_wp2
    go_ret
    exact ⟨rfl, by go_grown⟩

set_option maxRecDepth 100000 in
set_option maxHeartbeats 6400000 in
theorem implVarsOf_any (v0 v1 : Value) (p : Pg) (fn : Int) (w : World) (hR : RowPg w w.heap.size v0 v1 p) (hl : szPg p ≤ 1048576) :
    Calls Tryz.prog 27 #[.agg #[v0, v1], .int .i64 fn] w fun e w' => (∃ a cap, e = .returned (.slice a (varsOf p fn).length cap) ∧ OwnsV w' w.heap.size (.slice a (varsOf p fn).length cap) (varsOf p fn)) ∧ Below w.heap.size w w' := by
  obtain ⟨na, nc, rfl⟩ := hR.1.len
  obtain ⟨fa, fcap, rfl⟩ := hR.2.len
  obtain ⟨N, HN⟩ : ∃ N, Hid (p.nodes.length = N) := ⟨_, (rfl : p.nodes.length = p.nodes.length)⟩
  obtain ⟨F, HF⟩ : ∃ N, Hid (p.fns.length = N) := ⟨_, (rfl : p.fns.length = p.fns.length)⟩
  have HV : Hid (RowPg w w.heap.size (.slice na N nc) (.slice fa F fcap) p) := by rw [← HN.out, ← HF.out]; exact hR
  have HL : Hid (szRow szNd p.nodes ≤ 1048576 ∧ szRow szFc p.fns ≤ 1048576) := ⟨Nat.le_trans (le_szPg_nodes p) hl, Nat.le_trans (le_szPg_fns p) hl⟩
  have hNl : N ≤ 1048576 := by have := len_szRow szNd p.nodes; have := HN.out; have := HL.out.1; omega
  have hFl : F ≤ 1048576 := by have := len_szRow szFc p.fns; have := HF.out; have := HL.out.2; omega
  rw [HN.out, HF.out]
  clear hR hl
  have cL0 : Hid (∀ W, Calls Tryz.prog 33 #[.agg #[.slice na N nc, .slice fa F fcap], .int .i64 fn] W fun e w' => e = .returned (.bool (isIn fn 0 ((F : Int) - 1))) ∧ Below W.heap.size W w') := fun W => isFn_any _ fa F fcap fn W
  by_cases hin : 0 ≤ fn ∧ fn ≤ (F : Int) - 1
  rotate_left
  · have hI : isIn fn 0 ((F : Int) - 1) = false := by
      cases hc : isIn fn 0 ((F : Int) - 1)
      · rfl
      · exact absurd ((isIn_iff _ _ _).mp hc) hin
    have HE : Hid (varsOf p fn = []) := by
      show _ = _
      unfold varsOf
      rw [HF.out, hI]
      rfl
    rw [HE.out]
    rw [hI] at cL0
    clear HV hin hI
    go_enter Tryz.func27, Tryz.ntmps27
    go_wp2_with fail
    go_at_call 33
    refine Calls.mono (cL0.out _) ?_
    rintro e w1 ⟨rfl, hb⟩
    have HB : Hid (Below w.heap.size w w1) := by
      refine Below.trans ?_ (hb.mono (by simp))
      go_grown
    clear hb
    go_wp2
    go_ret
    exact ⟨⟨none, 0, rfl, ownsR_nil _ _ _ _ _⟩, HB.out⟩
  obtain ⟨m, rfl⟩ : ∃ m : Nat, fn = (m : Int) := ⟨fn.toNat, by omega⟩
  have hI : isIn (m : Int) 0 ((F : Int) - 1) = true := (isIn_iff _ _ _).mpr hin
  rw [hI] at cL0
  have hmF : m < F := by omega
  have hmf : m < p.fns.length := by have := HF.out; omega
  have hm0 : (0 : Int) ≤ (m : Int) := by omega
  have hm1 : (m : Int) < (F : Int) := by omega
  obtain ⟨b, off, pv, rfl, hb, c0, c1, c2, c3, c4, hP⟩ := FcR.at HV.out.2 m hmf
  have HE : Hid (varsOf p (m : Int) = varsIn p.nodes p.fns[m]) := by
    show _ = _
    unfold varsOf
    rw [HF.out, hI, if_pos rfl]
    simp [List.getD, hmf]
  have hqs : szFc p.fns[m] ≤ 1048576 := Nat.le_trans (mem_szRow szFc (List.getElem_mem hmf)) HL.out.2
  obtain ⟨q, hq⟩ : ∃ q, Hid (p.fns[m] = q) := ⟨_, (rfl : p.fns[m] = p.fns[m])⟩
  rw [hq.out] at c0 c2 c3 c4 hP HE hqs
  rw [HE.out]
  obtain ⟨fn, fp, fr, fb, ft⟩ := q
  obtain ⟨pa, pc, rfl⟩ := hP.len
  simp only at c0 c1 c2 c3 c4 hP
  have hPs : szRow szPm fp ≤ 1048576 := Nat.le_trans (le_szFc_params ⟨fn, fp, fr, fb, ft⟩) hqs
  have HPs : Hid (szRow szPm fp ≤ 1048576) := hPs
  have hK : fp.length ≤ 1048576 := by
    have h2 := len_szRow szPm fp
    omega
  obtain ⟨K, HK⟩ : ∃ K, Hid (fp.length = K) := ⟨_, (rfl : fp.length = fp.length)⟩
  rw [HK.out] at c1 hP hK
  have HP : Hid (PmR.Row w w.heap.size (.slice pa K pc) fp) := hP
  have hkb : b < w.heap.size := hb
  obtain ⟨xs, hxs⟩ : ∃ xs, Hid (underL p.nodes fb = xs) := ⟨_, (rfl : underL p.nodes fb = underL p.nodes fb)⟩
  obtain ⟨X, HX⟩ : ∃ X, Hid (xs.length = X) := ⟨_, (rfl : xs.length = xs.length)⟩
  have cU : Hid (∀ W, Below w.heap.size w W → Calls Tryz.prog 35 #[.agg #[.slice na N nc, .slice (some ⟨b, off, none⟩) F fcap], .int .i64 fb] W fun e w' => (∃ g cap, e = .returned (.slice g X cap) ∧ OwnsI w' W.heap.size (.slice g X cap) xs ∧ X ≤ 1048576) ∧ Below W.heap.size W w') := fun W hW => by
    refine (implUnder_any _ _ p.nodes fb W ((HV.out.1.keep hW).up hW.size) HL.out.1).mono ?_
    rintro e w' ⟨⟨v, ys, he, ho, ha, hx⟩, hb⟩
    obtain rfl := underAns_one ha (underAns_L p.nodes fb)
    obtain ⟨a, cap, rfl⟩ := RowR.len ho.row
    rw [hxs.out] at ho hx he
    rw [HX.out] at ho hx he
    exact ⟨⟨a, cap, he, ho, hx⟩, hb⟩
  have HIn : Hid (∀ x ∈ xs, 0 ≤ x ∧ x < (p.nodes.length : Int)) := fun x hx => by
    rw [← hxs.out] at hx
    have := underL_in hx
    exact ⟨this.1, this.2.2.1⟩
  have HEnd : Hid (varsIn p.nodes ⟨fn, fp, fr, fb, ft⟩ = fp.map parV ++ lets p.nodes xs) := by
    show _ = _
    unfold varsIn
    rw [hxs.out]
  have HC3 : Hid (w.cell? ⟨b, off + m * 5 + 1, none⟩ = some (.slice pa K pc) ∧ w.cell? ⟨b, off + m * 5 + 3, none⟩ = some (.int .i64 fb)) := ⟨c1, c3⟩
  clear hb hqs hP hPs c0 c1 c2 c3 c4
  go_enter Tryz.func27, Tryz.ntmps27
  go_wp2_with fail
  go_at_call 33
  refine Calls.mono (cL0.out _) ?_
  rintro e w1 ⟨rfl, hb1⟩
  have B1 : Hid (Box w (.cells #[.slice na N nc, .slice (some ⟨b, off, none⟩) F fcap] 31) w1) := (Box.first _ _).next hb1
  have H0 : Hid (VSt w w.heap.size #[.slice na N nc, .slice (some ⟨b, off, none⟩) F fcap] #[.slice na N nc, .slice (some ⟨b, off, none⟩) F fcap] 31 31 w1 (.slice none 0 0) []) := by
    have h1 := (hb1.block w.heap.size (by simp)).trans (heap_alloc_new w (.cells #[.slice na N nc, .slice (some ⟨b, off, none⟩) F fcap] 31))
    exact ⟨ownsR_nil _ _ _ _ _, B1.out.below, h1, h1, by decide, by decide⟩
  have x1 := B1.out.cell 1
  have d1 := (B1.out.below.cell (p := ⟨b, off + m * 5 + 1, none⟩) hkb).trans HC3.out.1
  simp at x1
  clear hb1 cL0 B1
  go_wp2_with fail
  go_loopw [5, 22] (fun o i wr => ∃ (t : Nat) (oa : Option Addr) (oc : Nat), t ≤ K ∧ i = .int .i64 (t : Int) ∧ o = .slice oa t oc ∧ Hid (VSt w w.heap.size #[.slice na N nc, .slice (some ⟨b, off, none⟩) F fcap] #[.slice na N nc, .slice (some ⟨b, off, none⟩) F fcap] 31 31 wr (.slice oa t oc) ((fp.take t).map parV))) (fun _ i _ => K - (intOf i).toNat)
  case atStart => exact ⟨0, none, 0, Nat.zero_le _, rfl, rfl, H0.out⟩
  case round =>
    obtain ⟨t, oa, oc, ht, rfl, rfl, HJ⟩ := hrel
    clear H0 x1 d1
    have hsz := HJ.out.bel.size
    by_cases hlt : t < K
    · have ht0 : (0 : Int) ≤ (t : Int) := by omega
      have ht1 : (t : Int) < (K : Int) := by omega
      have htp : t < fp.length := by have := HK.out; omega
      obtain ⟨pb, po, rfl, hpb, e0, e1⟩ := PmR.at HP.out t htp
      have hnl : fp[t].name.size ≤ 281474976710656 := Nat.le_trans (Nat.le_trans (Nat.le_trans (le_szPm_name fp[t]) (mem_szRow szPm (List.getElem_mem htp))) HPs.out) (by omega)
      obtain ⟨x, hx⟩ : ∃ x, Hid (fp[t] = x) := ⟨_, (rfl : fp[t] = fp[t])⟩
      rw [hx.out] at e0 e1 hnl
      have d0 := (HJ.out.bel.cell (p := ⟨pb, po + t * 2, none⟩) hpb).trans e0
      have d1 := (HJ.out.bel.cell (p := ⟨pb, po + t * 2 + 1, none⟩) hpb).trans e1
      obtain ⟨xn, xt⟩ := x
      simp only at d0 d1 hnl
      have HNx : Hid ((fp.take (t + 1)).map parV = (fp.take t).map parV ++ [⟨xn, xt, -1⟩]) := by
        show _ = _
        rw [List.take_succ_eq_append_getElem htp, List.map_append, hx.out]
        rfl
      have hXl : ((fp.take t).map parV).length = t := by
        rw [List.length_map, List.length_take]
        omega
      have hpl : ((fp.take t).map parV).length ≤ 10000000 := by omega
      have HBn : Hid (Below wr.heap.size wr (wr.alloc (.cells #[.string xn, .int .i64 xt] 56))) := by show Below _ _ _; go_grown
      have HX1 : Hid (Box wr (.cells #[.string xn, .int .i64 xt] 56) (wr.alloc (.cells #[.string xn, .int .i64 xt] 56))) := Box.first _ _
      clear e0 e1
      go_wp2_with fail
      generalize hWn : wr.alloc (.cells #[.string xn, .int .i64 xt] 56) = Wn at HX1 HBn ⊢
      have x0 : Wn.cell? ⟨wr.heap.size, 0, none⟩ = some (.string xn) := HX1.out.cell 0
      have x1 : Wn.cell? ⟨wr.heap.size, 1, none⟩ = some (.int .i64 xt) := HX1.out.cell 1
      have hlw : wr.heap.size < Wn.heap.size := HX1.out.lt
      clear hWn d0 d1
      go_region_held3 (fun w' => w'.cell? ⟨wr.heap.size, 0, none⟩ = some (.string xn) ∧ w'.cell? ⟨wr.heap.size, 1, none⟩ = some (.int .i64 xt)) (first | exact ⟨u0, u1⟩ | exact ⟨r0, r1⟩ | exact ⟨x0, x1⟩ | go_keep) (first | (go_at_call 60; refine Calls.mono (Clone_any xn _ hnl) ?_; rintro e wC ⟨rfl, hbC⟩; have hbC1 : Below Wn.heap.size Wn wC := (Below.refl _ _).drew.trans hbC; have r0 := (hbC1.cell (p := ⟨wr.heap.size, 0, none⟩) hlw).trans x0; have r1 := (hbC1.cell (p := ⟨wr.heap.size, 1, none⟩) hlw).trans x1; have hlC : wr.heap.size < wC.heap.size := Nat.lt_of_lt_of_le hlw hbC1.size; have hBC : Below wr.heap.size wr wC := HBn.out.trans (hbC1.mono HBn.out.size)) | (refine step_appendRA (enc := vrC) (k := 3) vrC_len rfl _ _ 43 rfl w.heap.size 47 _ 32 Tryz.underlying43 Tryz.infoVr rfl (by decide) (OwnsR.below HJ.out.own (hBC.alloc hBC.size (.cells #[.string xn, .int .i64 xt, .int .i64 (-1)] 47))) ⟨xn, xt, -1⟩ (vrC_ones _) wC.heap.size (0, 0) (heap_alloc_new _ _) rfl rfl hpl (by omega) (by have := hBC.size; simp; omega) ?_; intro v5 w5 hown5 hg5 hat5 hv5; obtain ⟨g5, cap5, rfl⟩ := hv5; have h5b := fun (j : Nat) (hj : j < wC.heap.size) (hne : some j ≠ (Value.slice oa t oc).ownBlock) => (hg5.block j (by simp; omega) hne).trans (Below.heap_alloc wC (.cells #[.string xn, .int .i64 xt, .int .i64 (-1)] 47) j hj); have hneq : some wr.heap.size ≠ (Value.slice oa t oc).ownBlock := (fun e => by have := (OwnsR.lt HJ.out.own wr.heap.size (by simp [fpOf, ← e])).2; omega); have h5c := h5b wr.heap.size hlC hneq; have u0 : w5.cell? ⟨wr.heap.size, 0, none⟩ = some (.string xn) := (cell_eq h5c 0).trans r0; have u1 : w5.cell? ⟨wr.heap.size, 1, none⟩ = some (.int .i64 xt) := (cell_eq h5c 1).trans r1))
      have HJ5 : Hid (VSt w w.heap.size #[.slice na N nc, .slice (some ⟨b, off, none⟩) F fcap] #[.slice na N nc, .slice (some ⟨b, off, none⟩) F fcap] 31 31 w5 (.slice (some ⟨g5, 0, none⟩) (t + 1) cap5) ((fp.take (t + 1)).map parV)) := by
        have h5 := (HJ.out.below (hBC.alloc hBC.size (.cells #[.string xn, .int .i64 xt, .int .i64 (-1)] 47))).grown hg5 hown5
        rw [HNx.out]
        rw [hXl] at h5
        exact h5
      have HXl : Hid (((fp.take t).map parV).length = t) := hXl
      clear hown5 hg5 hat5 hXl u0 u1 r0 r1 x0 x1 hbC hbC1 hBC h5b h5c hneq HNx HJ HX1 HBn
      go_wp2
      go_roundw
      case rel => exact ⟨t + 1, some ⟨g5, 0, none⟩, cap5, by omega, by go_num, by first | rw [HXl.out] | (have := HK.out; simp; omega), HJ5⟩
      case measure => simp [intOf]; omega
    · have htK : t = K := by omega
      subst htK
      have H1 : Hid (VSt w w.heap.size #[.slice na N nc, .slice (some ⟨b, off, none⟩) F fcap] #[.slice na N nc, .slice (some ⟨b, off, none⟩) F fcap] 31 31 wr (.slice oa t oc) (fp.map parV)) := by
        have h1 := HJ.out
        rw [List.take_of_length_le (by have := HK.out; omega)] at h1
        exact h1
      have f3 := (HJ.out.bel.cell (p := ⟨b, off + m * 5 + 3, none⟩) hkb).trans HC3.out.2
      have x0 := cell_at HJ.out.box 0
      have x1 := cell_at HJ.out.box 1
      simp at x0 x1
      have hbr : b < wr.heap.size := by omega
      have hwr : w.heap.size < wr.heap.size := HJ.out.lt
      clear HJ HC3
      go_wp2_with fail
      go_region_held3 (fun w' => (w'.cell? ⟨w.heap.size, 0, none⟩ = some (.slice na N nc) ∧ w'.cell? ⟨w.heap.size, 1, none⟩ = some (.slice (some ⟨b, off, none⟩) F fcap)) ∧ w'.cell? ⟨b, off + m * 5 + 3, none⟩ = some (.int .i64 fb)) (first | exact ⟨⟨x0, x1⟩, f3⟩ | exact ⟨⟨(hb3.cell (p := ⟨w.heap.size, 0, none⟩) hwr).trans x0, (hb3.cell (p := ⟨w.heap.size, 1, none⟩) hwr).trans x1⟩, (hb3.cell (p := ⟨b, off + m * 5 + 3, none⟩) hbr).trans f3⟩ | go_keep) ((go_at_call 35; refine Calls.mono (cU.out _ H1.out.bel.drew) ?_; rintro e w3 ⟨⟨gs, cs, rfl, hos, hxl⟩, hb3⟩))
      have H3 : Hid (VSt w w.heap.size #[.slice na N nc, .slice (some ⟨b, off, none⟩) F fcap] #[.slice na N nc, .slice (some ⟨b, off, none⟩) F fcap] 31 31 w3 (.slice oa t oc) (fp.map parV)) := H1.out.below ((Below.refl _ _).drew.trans hb3)
      have HO3 : Hid (OwnsI w3 w.heap.size (.slice gs X cs) xs) := owns_base hos H1.out.bel.drew.size
      clear hos hb3 cU H1 f3 x0 x1
      go_wp2_with fail
      go_loopw [5, 45] (fun o i wr => ∃ (s ql : Nat) (qg : Option Addr) (qc : Nat), s ≤ X ∧ i = .int .i64 (s : Int) ∧ o = .slice qg ql qc ∧ ql ≤ 2097152 ∧ Hid (VSt w w.heap.size #[.slice na N nc, .slice (some ⟨b, off, none⟩) F fcap] #[.slice na N nc, .slice (some ⟨b, off, none⟩) F fcap] 31 31 wr (.slice qg ql qc) (fp.map parV ++ lets p.nodes (xs.take s)) ∧ OwnsI wr w.heap.size (.slice gs X cs) xs ∧ ql = (fp.map parV ++ lets p.nodes (xs.take s)).length)) (fun _ i _ => X - (intOf i).toNat)
      case atStart => exact ⟨0, _, _, _, Nat.zero_le _, rfl, rfl, by omega, by simpa [lets] using H3.out, HO3.out, by simp [lets]; have := HK.out; omega⟩
      case round =>
        obtain ⟨s, ql, qg, qc, hs, rfl, rfl, hql, HQ⟩ := hrel
        have x0 := cell_at HQ.out.1.box 0
        simp at x0
        have hsz := HQ.out.1.bel.size
        by_cases hsl : s < X
        · have hs0 : (0 : Int) ≤ (s : Int) := by omega
          have hs1 : (s : Int) < (X : Int) := by omega
          have hsx : s < xs.length := by have := HX.out; omega
          obtain ⟨ib, io, rfl, hib, e0⟩ := RowI.at (RowI.up HQ.out.2.1.row (Nat.le_refl _)) s hsx
          have hxj := HIn.out xs[s] (List.getElem_mem hsx)
          obtain ⟨j, hj⟩ : ∃ j : Nat, Hid (xs[s] = (j : Int)) := ⟨xs[s].toNat, (by show _ = _; omega)⟩
          rw [hj.out] at e0 hxj
          have hjN : j < N := by have := HN.out; omega
          have hjl : j < p.nodes.length := by have := HN.out; omega
          have hj0 : (0 : Int) ≤ (j : Int) := by omega
          have hj1 : (j : Int) < (N : Int) := by omega
          have hLT : Hid (lets p.nodes (xs.take (s + 1)) = lets p.nodes (xs.take s) ++ (if (p.nodes.getD j nd0).kind = 13 then [letV p.nodes (j : Int)] else [])) := by
            show _ = _
            rw [lets_take p.nodes xs s hsx, hj.out, Int.toNat_natCast]
          have hns : p.nodes[j].name.size ≤ 281474976710656 := Nat.le_trans (Nat.le_trans (Nat.le_trans (le_szNd_name p.nodes[j]) (mem_szRow szNd (List.getElem_mem hjl))) HL.out.1) (by omega)
          obtain ⟨nb, no, ka, kc, rfl, hnb, n0, n1, n2, n3, _⟩ := RowNd.at HV.out.1 j hjl
          have hgd : p.nodes.getD j nd0 = p.nodes[j] := by simp [List.getD, hjl]
          rw [hgd] at hLT
          have hlv : letV p.nodes (j : Int) = ⟨p.nodes[j].name, 0, (j : Int)⟩ := by
            unfold letV
            rw [Int.toNat_natCast, hgd]
          rw [hlv] at hLT
          obtain ⟨nx, hnx⟩ : ∃ nx, Hid (p.nodes[j].name = nx) := ⟨_, (rfl : p.nodes[j].name = p.nodes[j].name)⟩
          obtain ⟨kx, hkx⟩ : ∃ kx, Hid (p.nodes[j].kind = kx) := ⟨_, (rfl : p.nodes[j].kind = p.nodes[j].kind)⟩
          obtain ⟨mx, hmx⟩ : ∃ mx, Hid (p.nodes[j].num = mx) := ⟨_, (rfl : p.nodes[j].num = p.nodes[j].num)⟩
          obtain ⟨kn, hkn⟩ : ∃ kn, Hid (p.nodes[j].kids.length = kn) := ⟨_, (rfl : p.nodes[j].kids.length = p.nodes[j].kids.length)⟩
          rw [hkx.out] at n0 hLT
          rw [hmx.out] at n1
          rw [hnx.out] at n2 hLT hns
          rw [hkn.out] at n3
          have d0 := (HQ.out.1.bel.cell (p := ⟨nb, no + j * 4, none⟩) hnb).trans n0
          have d1 := (HQ.out.1.bel.cell (p := ⟨nb, no + j * 4 + 1, none⟩) hnb).trans n1
          have d2 := (HQ.out.1.bel.cell (p := ⟨nb, no + j * 4 + 2, none⟩) hnb).trans n2
          have d3 := (HQ.out.1.bel.cell (p := ⟨nb, no + j * 4 + 3, none⟩) hnb).trans n3
          clear n0 n1 n2 n3 hgd hlv hxj
          have HBn : Hid (Below wr.heap.size wr (wr.alloc (.cells #[.int .i64 kx, .int .i64 mx, .string nx, .slice ka kn kc] 67))) := by show Below _ _ _; go_grown
          by_cases hk : kx = 13
          · rw [if_pos hk] at hLT
            have HNx : Hid (fp.map parV ++ lets p.nodes (xs.take (s + 1)) = (fp.map parV ++ lets p.nodes (xs.take s)) ++ [⟨nx, 0, (j : Int)⟩]) := by
              show _ = _
              rw [hLT.out, List.append_assoc]
            have hpl : (fp.map parV ++ lets p.nodes (xs.take s)).length ≤ 10000000 := by rw [← HQ.out.2.2]; omega
            have hql2 : ql + 1 ≤ 2097152 := by
              have h1 := lets_len p.nodes (xs.take (s + 1))
              rw [hLT.out, List.length_append, List.length_singleton, List.length_take] at h1
              rw [HQ.out.2.2, List.length_append, List.length_map]
              have := HK.out
              omega
            clear hLT
            subst hk
            go_wp2_with fail
            go_at_call 60
            refine Calls.mono (Clone_any nx _ hns) ?_
            rintro e wC ⟨rfl, hbC⟩
            have hBC : Below wr.heap.size wr wC := HBn.out.trans (hbC.mono HBn.out.size)
            have HC : Hid (VSt w w.heap.size #[.slice (some ⟨nb, no, none⟩) N nc, .slice (some ⟨b, off, none⟩) F fcap] #[.slice (some ⟨nb, no, none⟩) N nc, .slice (some ⟨b, off, none⟩) F fcap] 31 31 wC (.slice qg ql qc) (fp.map parV ++ lets p.nodes (xs.take s)) ∧ OwnsI wC w.heap.size (.slice (some ⟨ib, io, none⟩) X cs) xs) := ⟨HQ.out.1.below hBC, OwnsR.below HQ.out.2.1 hBC⟩
            have HOw : Hid (OwnsR vrC 3 wC w.heap.size 47 (.slice qg ql qc) (fp.map parV ++ lets p.nodes (xs.take s))) := HC.out.1.own
            have hBs : w.heap.size ≤ wC.heap.size := HC.out.1.bel.size
            clear hbC d0 d1 d2 d3 x0 e0
            go_wp2_with (at_builtin; go_must (refine appendRA (enc := vrC) (k := 3) vrC_len rfl _ _ 43 rfl w.heap.size 47 _ 32 Tryz.underlying43 Tryz.infoVr rfl (by decide) HOw.out ⟨nx, 0, (j : Int)⟩ (vrC_ones _) rfl (by first | rfl | (simp [Act.eval]; done)) hpl (by omega) hBs ?_); intro v5 w5 hown5 hg5 hat5 hv5; obtain ⟨g5, cap5, rfl⟩ := hv5)
            have hneg : (Value.slice (some ⟨ib, io, none⟩) X cs).ownBlock ≠ (Value.slice qg ql qc).ownBlock := by
              rcases types_apart HC.out.2 HOw.out (by decide) with h1 | h1
              · rcases OwnsR.form HC.out.2 with ⟨h2, _⟩ | ⟨g, c, h2, _⟩
                · cases h2
                · rw [h2] at h1
                  cases h1
              · exact h1
            have HJ5 : Hid (VSt w w.heap.size #[.slice (some ⟨nb, no, none⟩) N nc, .slice (some ⟨b, off, none⟩) F fcap] #[.slice (some ⟨nb, no, none⟩) N nc, .slice (some ⟨b, off, none⟩) F fcap] 31 31 w5 (.slice (some ⟨g5, 0, none⟩) (ql + 1) cap5) (fp.map parV ++ lets p.nodes (xs.take (s + 1))) ∧ OwnsI w5 w.heap.size (.slice (some ⟨ib, io, none⟩) X cs) xs ∧ ql + 1 = (fp.map parV ++ lets p.nodes (xs.take (s + 1))).length) := by
              rw [HNx.out]
              have HF5 := HC.out.1.grown hg5 hown5
              refine ⟨?_, OwnsR.kept HC.out.2 hg5 (.inr hneg), ?_⟩
              · rw [← HQ.out.2.2] at HF5
                exact HF5
              · rw [List.length_append (bs := [_]), ← HQ.out.2.2]
                rfl
            have HQL : Hid ((fp.map parV ++ lets p.nodes (xs.take s)).length = ql) := HQ.out.2.2.symm
            clear hown5 hg5 hat5 hneg hBC HC HOw hBs HNx HQ HBn
            go_wp2
            go_roundw
            case rel => exact ⟨s + 1, ql + 1, some ⟨g5, 0, none⟩, cap5, by omega, by go_num, by first | rw [HQL.out] | (have := HQL.out; simp at this; simp; omega), hql2, HJ5⟩
            case measure => simp [intOf]; omega
          · rw [if_neg hk, List.append_nil] at hLT
            have HJ5 : Hid (VSt w w.heap.size #[.slice (some ⟨nb, no, none⟩) N nc, .slice (some ⟨b, off, none⟩) F fcap] #[.slice (some ⟨nb, no, none⟩) N nc, .slice (some ⟨b, off, none⟩) F fcap] 31 31 (wr.alloc (.cells #[.int .i64 kx, .int .i64 mx, .string nx, .slice ka kn kc] 67)) (.slice qg ql qc) (fp.map parV ++ lets p.nodes (xs.take (s + 1))) ∧ OwnsI (wr.alloc (.cells #[.int .i64 kx, .int .i64 mx, .string nx, .slice ka kn kc] 67)) w.heap.size (.slice (some ⟨ib, io, none⟩) X cs) xs ∧ ql = (fp.map parV ++ lets p.nodes (xs.take (s + 1))).length) := by
              rw [hLT.out]
              exact ⟨HQ.out.1.below HBn.out, OwnsR.below HQ.out.2.1 HBn.out, HQ.out.2.2⟩
            clear HQ hLT HBn
            go_wp2
            go_roundw
            case rel => exact ⟨s + 1, ql, qg, qc, by omega, by go_num, rfl, hql, HJ5⟩
            case measure => simp [intOf]; omega
        · have HZ : Hid (OwnsV wr w.heap.size (.slice qg ql qc) (varsIn p.nodes ⟨fn, fp, fr, fb, ft⟩) ∧ Below w.heap.size w wr ∧ (varsIn p.nodes ⟨fn, fp, fr, fb, ft⟩).length = ql) := by
            have h1 := HQ.out
            rw [List.take_of_length_le (by have := HX.out; omega), ← HEnd.out] at h1
            exact ⟨h1.1.own, h1.1.bel, h1.2.2.symm⟩
          clear HQ x0
          go_wp2
          go_ret
          refine ⟨⟨qg, qc, ?_, ?_⟩, HZ.out.2.1⟩
          · rw [HZ.out.2.2]
            rfl
          · rw [HZ.out.2.2]
            exact HZ.out.1

end Go.Proofs.YtjafneaaefpefaaGreat
