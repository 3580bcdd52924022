/-
  signAhead, in the program: the sign that a text begins with, and its length.
-/
import Derived.Test.YtbanmldmdoedkaaDoorSgSign
namespace Go.Proofs.YtbanmldmdoedkaaDoor
open Go.RowKit

theorem ext_of_list {a b : ByteArray} (h : a.data.toList = b.data.toList) : a = b := by
  cases a; cases b
  simp only [ByteArray.mk.injEq]
  exact Array.toList_inj.1 h

theorem head_data (t : ByteArray) (n : Nat) : (t.extract 0 n).data.toList = t.data.toList.take n := by
  rw [Lib.extract_data]; simp
theorem head_size (t : ByteArray) (n : Nat) (h : n ≤ t.size) : (t.extract 0 n).size = n := by simp; omega
theorem head_text (t : ByteArray) (n : Nat) : t.extract 0 n = ⟨(t.data.toList.take n).toArray⟩ := ext_of_list (by rw [head_data])

/-- What stands ready when a callee's sign is stored into the call's own and handed back. -/
structure Ready (w W : World) : Prop where
  below : Below (w.alloc (.cells #[.int .i64 0, .string ⟨#[]⟩, .int .i64 0] 35)).heap.size (w.alloc (.cells #[.int .i64 0, .string ⟨#[]⟩, .int .i64 0] 35)) W

theorem Ready.on {w W W2 : World} (h : Ready w W) (hb : Below W.heap.size W W2) : Ready w W2 := ⟨h.below.trans (hb.mono h.below.size)⟩
theorem Ready.out {w W : World} (h : Ready w W) : Below w.heap.size w W := own_below h.below
theorem Ready.facts {w W : World} (h : Ready w W) :
    (W.cell? ⟨w.heap.size, 0, none⟩ = some (.int .i64 0) ∧ W.cell? ⟨w.heap.size, 1, none⟩ = some (.string ⟨#[]⟩) ∧ W.cell? ⟨w.heap.size, 2, none⟩ = some (.int .i64 0)) ∧
    (W.frozen? ⟨w.heap.size, 0, none⟩ = false ∧ W.frozen? ⟨w.heap.size, 1, none⟩ = false ∧ W.frozen? ⟨w.heap.size, 2, none⟩ = false) ∧
    (∀ v0 v1 v2, (((W.setCell ⟨w.heap.size, 0, none⟩ v0).setCell ⟨w.heap.size, 1, none⟩ v1).setCell ⟨w.heap.size, 2, none⟩ v2).cell? ⟨w.heap.size, 0, none⟩ = some v0) ∧
    (∀ v0 v1 v2, (((W.setCell ⟨w.heap.size, 0, none⟩ v0).setCell ⟨w.heap.size, 1, none⟩ v1).setCell ⟨w.heap.size, 2, none⟩ v2).cell? ⟨w.heap.size, 1, none⟩ = some v1) ∧
    (∀ v0 v1 v2, (((W.setCell ⟨w.heap.size, 0, none⟩ v0).setCell ⟨w.heap.size, 1, none⟩ v1).setCell ⟨w.heap.size, 2, none⟩ v2).cell? ⟨w.heap.size, 2, none⟩ = some v2) := by
  have hb := own_block h.below
  exact ⟨⟨own_cell h.below 0, own_cell h.below 1, own_cell h.below 2⟩, ⟨own_free h.below 0, own_free h.below 1, own_free h.below 2⟩,
    fun v0 v1 v2 => Lib.cell_of_heap (three_cells hb) 0, fun v0 v1 v2 => Lib.cell_of_heap (three_cells hb) 1, fun v0 v1 v2 => Lib.cell_of_heap (three_cells hb) 2⟩

set_option maxRecDepth 100000 in
set_option maxHeartbeats 1600000 in
theorem signAhead_any (t : ByteArray) (w : World) (hm : MarksOk w) (kd nm : Int) (tx : ByteArray) (ln : Nat) (HR : Hid (aheadOf t.data.toList = (⟨kd, tx, nm⟩, ln))) :
    Calls Tryd.prog 25 #[.string t] w fun e w' => e = .returned (.tuple #[.agg #[.int .i64 kd, .string tx, .int .i64 nm], .int .i64 (ln : Int)]) ∧ Below w.heap.size w w' := by
  have Hm : Hid (MarksOk w) := hm
  clear hm
  obtain ⟨N, HN⟩ : ∃ N, Hid (wordLen t.data.toList = N) := ⟨_, (rfl : wordLen t.data.toList = wordLen t.data.toList)⟩
  obtain ⟨M, HM⟩ : ∃ M, Hid (runLen figR t.data.toList = M) := ⟨_, (rfl : runLen figR t.data.toList = runLen figR t.data.toList)⟩
  have hNt : N ≤ t.size := by rw [← HN.out]; exact wordLen_le _
  have hMt : M ≤ t.size := by rw [← HM.out]; exact runLen_le _ _
  have cW : Hid (∀ W, Calls Tryd.prog 39 #[.string t] W fun e w' => e = .returned (.int .i64 (N : Int)) ∧ Below W.heap.size W w') := fun W => by rw [← HN.out]; exact wordAhead_any t W
  have cF : Hid (∀ W, Calls Tryd.prog 44 #[.string t, .func (.func 45) #[] #[]] W fun e w' => e = .returned (.int .i64 (M : Int)) ∧ Below W.heap.size W w') := fun W => by rw [← HM.out]; exact runAhead_figure t W
  have H1 : Hid (aheadOf t.data.toList = (if 0 < N then (if 8 < N then ((⟨0, ByteArray.empty, 0⟩ : Sg), 0) else (⟨1, t.extract 0 N, 0⟩, N))
      else if 0 < M then (if 10 < M ∨ 1000000000 < valD (t.extract 0 M).data.toList then (⟨0, ByteArray.empty, 0⟩, 0) else (⟨2, ByteArray.empty, (valD (t.extract 0 M).data.toList : Int)⟩, M))
      else (⟨(markRes t.data.toList).1, (markRes t.data.toList).2.1, 0⟩, (markRes t.data.toList).2.2))) := by
    rw [head_text t N, head_data t M, ← HN.out, ← HM.out]
    exact rfl
  have H2 : Hid ((⟨kd, tx, nm⟩, ln) = (if 0 < N then (if 8 < N then ((⟨0, ByteArray.empty, 0⟩ : Sg), 0) else (⟨1, t.extract 0 N, 0⟩, N))
      else if 0 < M then (if 10 < M ∨ 1000000000 < valD (t.extract 0 M).data.toList then (⟨0, ByteArray.empty, 0⟩, 0) else (⟨2, ByteArray.empty, (valD (t.extract 0 M).data.toList : Int)⟩, M))
      else (⟨(markRes t.data.toList).1, (markRes t.data.toList).2.1, 0⟩, (markRes t.data.toList).2.2))) := HR.out.symm.trans H1.out
  clear HR H1
  go_enter Tryd.func25, Tryd.ntmps25
  go_wp2_with fail
  go_at_call 39
  refine Calls.mono (cW.out _) ?_
  rintro e w1 ⟨rfl, hb1⟩
  have hz1 := hb1.size
  have HB1 : Hid (Ready w w1) := ⟨hb1⟩
  clear hb1 cW
  by_cases hN : 0 < N
  · have hN' : (0 : Int) < (N : Int) := by omega
    have hNt' : (N : Int) ≤ (t.size : Int) := by omega
    have H3 : Hid ((⟨kd, tx, nm⟩, ln) = (if 8 < N then ((⟨0, ByteArray.empty, 0⟩ : Sg), 0) else (⟨1, t.extract 0 N, 0⟩, N))) := by
      have := H2.out
      rw [if_pos hN] at this
      exact this
    clear H2
    have cS : Hid (∀ W, Calls Tryd.prog 43 #[.string (t.extract 0 N)] W fun e w' => e = .returned (.tuple #[.agg #[.int .i64 kd, .string tx, .int .i64 nm], .int .i64 (ln : Int)]) ∧ Below W.heap.size W w') := fun W => by
      have hs := head_size t N hNt
      have H4 := H3.out
      by_cases h8 : 8 < N
      · rw [if_pos h8] at H4
        simp only [Prod.mk.injEq, Sg.mk.injEq] at H4
        obtain ⟨⟨rfl, rfl, rfl⟩, rfl⟩ := H4
        exact wordSign_long _ W (by omega)
      · rw [if_neg h8] at H4
        simp only [Prod.mk.injEq, Sg.mk.injEq] at H4
        obtain ⟨⟨rfl, rfl, rfl⟩, rfl⟩ := H4
        have := wordSign_short (t.extract 0 ln) W (by omega)
        rw [hs] at this
        exact this
    clear H3
    go_wp2_with fail
    go_at_call 43
    refine Calls.mono (cS.out _) ?_
    rintro e w3 ⟨rfl, hb3⟩
    have HB3 : Hid (Ready w w3) := HB1.out.on hb3
    obtain ⟨⟨c0, c1, c2⟩, ⟨f0, f1, f2⟩, e0, e1, e2⟩ := HB3.out.facts
    clear hb3 cS
    go_wp2
    refine bodyPost_ret (by simp [results, Tryd.results25, go_sem, e0, e1, e2]; try rfl) rfl ?_
    refine ⟨rfl, ?_⟩
    have := HB3.out.out
    go_grown
  · have hN' : ¬ (0 : Int) < (N : Int) := by omega
    have H3 : Hid ((⟨kd, tx, nm⟩, ln) = (if 0 < M then (if 10 < M ∨ 1000000000 < valD (t.extract 0 M).data.toList then ((⟨0, ByteArray.empty, 0⟩ : Sg), 0) else (⟨2, ByteArray.empty, (valD (t.extract 0 M).data.toList : Int)⟩, M))
      else (⟨(markRes t.data.toList).1, (markRes t.data.toList).2.1, 0⟩, (markRes t.data.toList).2.2))) := by
      have := H2.out
      rw [if_neg hN] at this
      exact this
    clear H2
    go_wp2_with fail
    go_at_call 44
    refine Calls.mono (cF.out _) ?_
    rintro e w2 ⟨rfl, hb2⟩
    have HB2 : Hid (Ready w w2) := HB1.out.on hb2
    clear hb2 cF
    by_cases hM : 0 < M
    · have hM' : (0 : Int) < (M : Int) := by omega
      have hMt' : (M : Int) ≤ (t.size : Int) := by omega
      have cS : Hid (∀ W, Calls Tryd.prog 46 #[.string (t.extract 0 M)] W fun e w' => e = .returned (.tuple #[.agg #[.int .i64 kd, .string tx, .int .i64 nm], .int .i64 (ln : Int)]) ∧ Below W.heap.size W w') := fun W => by
        have hs := head_size t M hMt
        have hfig : ∀ c ∈ (t.extract 0 M).data.toList, isFig c = true := by
          rw [head_data, ← HM.out, runFig, take_takeWhile]
          exact twAll _
        have H4 := H3.out
        rw [if_pos hM] at H4
        by_cases h10 : 10 < M
        · rw [if_pos (Or.inl h10)] at H4
          simp only [Prod.mk.injEq, Sg.mk.injEq] at H4
          obtain ⟨⟨rfl, rfl, rfl⟩, rfl⟩ := H4
          exact numberSign_long _ W (by omega)
        · by_cases hv : 1000000000 < valD (t.extract 0 M).data.toList
          · rw [if_pos (Or.inr hv)] at H4
            simp only [Prod.mk.injEq, Sg.mk.injEq] at H4
            obtain ⟨⟨rfl, rfl, rfl⟩, rfl⟩ := H4
            exact numberSign_short _ W (by omega) hfig 0 0 0 (by rw [if_pos hv]; exact rfl)
          · rw [if_neg (fun h => by omega)] at H4
            simp only [Prod.mk.injEq, Sg.mk.injEq] at H4
            obtain ⟨⟨rfl, rfl, rfl⟩, rfl⟩ := H4
            exact numberSign_short _ W (by omega) hfig 2 _ ln (by rw [if_neg hv, hs]; exact rfl)
      clear H3
      go_wp2_with fail
      go_at_call 46
      refine Calls.mono (cS.out _) ?_
      rintro e w3 ⟨rfl, hb3⟩
      have HB3 : Hid (Ready w w3) := HB2.out.on hb3
      obtain ⟨⟨c0, c1, c2⟩, ⟨f0, f1, f2⟩, e0, e1, e2⟩ := HB3.out.facts
      clear hb3 cS
      go_wp2
      refine bodyPost_ret (by simp [results, Tryd.results25, go_sem, e0, e1, e2]; try rfl) rfl ?_
      refine ⟨rfl, ?_⟩
      have := HB3.out.out
      go_grown
    · have hM' : ¬ (0 : Int) < (M : Int) := by omega
      have cS : Hid (∀ W, MarksOk W → Calls Tryd.prog 47 #[.string t] W fun e w' => e = .returned (.tuple #[.agg #[.int .i64 kd, .string tx, .int .i64 nm], .int .i64 (ln : Int)]) ∧ Below W.heap.size W w') := fun W hW => by
        have H4 := H3.out
        rw [if_neg hM] at H4
        simp only [Prod.mk.injEq, Sg.mk.injEq] at H4
        obtain ⟨⟨h1, h2, rfl⟩, h3⟩ := H4
        exact markSign_any t W hW kd tx ln (by rw [h1, h2, h3]; exact rfl)
      clear H3
      have Hm2 : Hid (MarksOk w2) := Hm.out.below HB2.out.out
      go_wp2_with fail
      go_at_call 47
      refine Calls.mono (cS.out _ Hm2.out) ?_
      rintro e w3 ⟨rfl, hb3⟩
      have HB3 : Hid (Ready w w3) := HB2.out.on hb3
      obtain ⟨⟨c0, c1, c2⟩, ⟨f0, f1, f2⟩, e0, e1, e2⟩ := HB3.out.facts
      clear hb3 cS
      go_wp2
      refine bodyPost_ret (by simp [results, Tryd.results25, go_sem, e0, e1, e2]; try rfl) rfl ?_
      refine ⟨rfl, ?_⟩
      have := HB3.out.out
      go_grown

end Go.Proofs.YtbanmldmdoedkaaDoor
