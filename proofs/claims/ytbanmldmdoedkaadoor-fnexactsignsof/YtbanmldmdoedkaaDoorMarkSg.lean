/-
  What the laws ask of an answer's memory: rows of signs marked, and looked at again.
-/
import Derived.Test.YtbanmldmdoedkaaDoorMa
import Derived.Test.YtbanmldmdoedkaaDoorSg
namespace Go.Proofs.YtbanmldmdoedkaaDoor
open Go.RowKit

def markSg (m : Nat) : Sg := ⟨(m : Int), mkT (m + 1), ((m + 2 : Nat) : Int)⟩
def marksSg (k n : Nat) : List Sg := (List.range n).map fun i => markSg (k + 3 * i)
theorem marksSg_len (k n : Nat) : (marksSg k n).length = n := by simp [marksSg]
theorem marksSg_step (k j : Nat) (ss : List Sg) (h : j < ss.length) : (marksSg k j ++ ss.drop j).set j (markSg (k + 3 * j)) = marksSg k (j + 1) ++ ss.drop (j + 1) := by
  have hd : ss.drop j = ss[j] :: ss.drop (j + 1) := List.drop_eq_getElem_cons h
  rw [hd, List.set_append_right _ _ (by rw [marksSg_len]; exact Nat.le_refl _), marksSg_len, Nat.sub_self, List.set_cons_zero]
  simp [marksSg, List.range_succ]

set_option maxHeartbeats 800000 in
theorem markSignS_some (B g cap k : Nat) (ss : List Sg) (w : World) (hl : ss.length ≤ 300000) (hk1 : k ≤ 1000000) (hk0 : 0 < k) (hown : OwnsSg w B (.slice (some ⟨g, 0, none⟩) ss.length cap) ss) :
    Calls Tryd.prog 8 #[.slice (some ⟨g, 0, none⟩) ss.length cap, .int .i64 (k : Int)] w fun e' w' => e' = .returned (.int .i64 ((k + 3 * ss.length : Nat) : Int)) ∧ OwnsSg w' B (.slice (some ⟨g, 0, none⟩) ss.length cap) (marksSg k ss.length) ∧ w.grownBy w' (some g) := by
  obtain ⟨n, hn⟩ : ∃ n, n = ss.length := ⟨_, rfl⟩
  have HN : Hid (n = ss.length) := hn
  rw [← hn] at hl hown ⊢
  clear hn
  have HO : Hid (OwnsSg w B (.slice (some ⟨g, 0, none⟩) n cap) ss) := hown
  clear hown
  go_enter Tryd.func8, Tryd.ntmps8
  go_wp2
  go_loopw [1, 5] (fun kk i wr => ∃ (j m : Nat), j ≤ n ∧ i = .int .i64 (j : Int) ∧ kk = .int .i64 (m : Int) ∧ Hid (m = k + 3 * j) ∧ Hid (OwnsSg wr B (.slice (some ⟨g, 0, none⟩) n cap) (marksSg k j ++ ss.drop j)) ∧ Hid (w.grownBy wr (some g)))
    (fun _ i _ => n - (intOf i).toNat)
  case atStart => exact ⟨0, k, Nat.zero_le _, rfl, rfl, rfl, HO, World.grownBy.refl _ _⟩
  case round =>
    obtain ⟨j, m, hj, rfl, rfl, HM, H1, HG⟩ := hrel
    have hm : m ≤ 2000000 := by have := HM.out; omega
    have hm0 : 0 < m := by have := HM.out; omega
    have HL : Hid (n = (marksSg k j ++ ss.drop j).length) := by show _ = _; have := HN.out; simp [marksSg_len]; omega
    by_cases hlt : j < n
    · have hj0 : (0 : Int) ≤ (j : Int) := by omega
      have hj1 : (j : Int) < (n : Int) := by omega
      have hjl : j < (marksSg k j ++ ss.drop j).length := by have := HL.out; omega
      obtain ⟨q, hq⟩ : ∃ q, Hid ((marksSg k j ++ ss.drop j)[j] = q) := ⟨_, (rfl : (marksSg k j ++ ss.drop j)[j] = (marksSg k j ++ ss.drop j)[j])⟩
      have c0 : wr.cell? ⟨g, j * 3, none⟩ = some (.int .i64 q.kind) := by have := OwnsR.cell sgC_len H1.out HL.out j 0 hjl (by omega); rw [hq.out] at this; simpa [sgC] using this
      have f0 : wr.frozen? ⟨g, j * 3, none⟩ = false := OwnsR.free H1.out HL.out _
      have S1 : Hid (OwnsSg (wr.setCell ⟨g, j * 3, none⟩ (.int .i64 (m : Int))) B (.slice (some ⟨g, 0, none⟩) n cap) ((marksSg k j ++ ss.drop j).set j ⟨(m : Int), q.text, q.num⟩)) := by
        have := OwnsR.stored sgC_len H1.out HL.out j 0 hjl (by omega) ⟨(m : Int), q.text, q.num⟩ (.int .i64 (m : Int)) (by rw [hq.out]; rfl)
        rw [Nat.add_zero] at this
        exact this
      have G1 : Hid (w.grownBy (wr.setCell ⟨g, j * 3, none⟩ (.int .i64 (m : Int))) (some g)) := grown_trans HG.out (grown_setCell wr ⟨g, j * 3, none⟩ _) (.inr rfl) (.inr rfl)
      go_wp2_with fail
      generalize wr.setCell ⟨g, j * 3, none⟩ (.int .i64 (m : Int)) = w1 at S1 G1 ⊢
      clear c0 f0 H1 HG
      go_at_call 27
      refine (markText_any (m + 1) _ (by omega) (by omega)).mono ?_
      rintro e' wc ⟨rfl, hbc⟩
      have hl2 : n = ((marksSg k j ++ ss.drop j).set j ⟨(m : Int), q.text, q.num⟩).length := by rw [List.length_set]; exact HL.out
      have hjl2 : j < ((marksSg k j ++ ss.drop j).set j ⟨(m : Int), q.text, q.num⟩).length := by omega
      have hq2 : ((marksSg k j ++ ss.drop j).set j ⟨(m : Int), q.text, q.num⟩)[j] = ⟨(m : Int), q.text, q.num⟩ := by simp
      have S2 : OwnsSg wc B (.slice (some ⟨g, 0, none⟩) n cap) ((marksSg k j ++ ss.drop j).set j ⟨(m : Int), q.text, q.num⟩) := OwnsR.below S1.out hbc
      have c1 : wc.cell? ⟨g, j * 3 + 1, none⟩ = some (.string q.text) := by have := OwnsR.cell sgC_len S2 hl2 j 1 hjl2 (by omega); rw [hq2] at this; simpa [sgC] using this
      have c2 : wc.cell? ⟨g, j * 3 + 2, none⟩ = some (.int .i64 q.num) := by have := OwnsR.cell sgC_len S2 hl2 j 2 hjl2 (by omega); rw [hq2] at this; simpa [sgC] using this
      have f1 : wc.frozen? ⟨g, j * 3 + 1, none⟩ = false := OwnsR.free S2 hl2 _
      obtain ⟨T, HT⟩ : ∃ T, Hid (mkT (m + 1) = T) := ⟨_, (rfl : mkT (m + 1) = mkT (m + 1))⟩
      have S3 : OwnsSg (wc.setCell ⟨g, j * 3 + 1, none⟩ (.string T)) B (.slice (some ⟨g, 0, none⟩) n cap) ((marksSg k j ++ ss.drop j).set j ⟨(m : Int), T, q.num⟩) := by
        have := OwnsR.stored sgC_len S2 hl2 j 1 hjl2 (by omega) ⟨(m : Int), T, q.num⟩ (.string T) (by rw [hq2]; rfl)
        rw [List.set_set] at this
        exact this
      have hl3 : n = ((marksSg k j ++ ss.drop j).set j ⟨(m : Int), T, q.num⟩).length := by rw [List.length_set]; exact HL.out
      have f2 : (wc.setCell ⟨g, j * 3 + 1, none⟩ (.string T)).frozen? ⟨g, j * 3 + 2, none⟩ = false := OwnsR.free S3 hl3 _
      have S4 : Hid (OwnsSg ((wc.setCell ⟨g, j * 3 + 1, none⟩ (.string T)).setCell ⟨g, j * 3 + 2, none⟩ (.int .i64 ((m + 2 : Nat) : Int))) B (.slice (some ⟨g, 0, none⟩) n cap) (marksSg k (j + 1) ++ ss.drop (j + 1))) := by
        have hjl3 : j < ((marksSg k j ++ ss.drop j).set j ⟨(m : Int), T, q.num⟩).length := by omega
        have := OwnsR.stored sgC_len S3 hl3 j 2 hjl3 (by omega) ⟨(m : Int), T, ((m + 2 : Nat) : Int)⟩ (.int .i64 ((m + 2 : Nat) : Int)) (by rw [show ((marksSg k j ++ ss.drop j).set j ⟨(m : Int), T, q.num⟩)[j] = ⟨(m : Int), T, q.num⟩ by simp]; rfl)
        rw [List.set_set, ← HT.out] at this
        have h5 := marksSg_step k j ss (by have := HN.out; omega)
        rw [← HM.out] at h5
        rw [← h5, ← HT.out]
        exact this
      have HGG : Hid (w.grownBy ((wc.setCell ⟨g, j * 3 + 1, none⟩ (.string T)).setCell ⟨g, j * 3 + 2, none⟩ (.int .i64 ((m + 2 : Nat) : Int))) (some g)) := grown_trans (grown_trans (grown_trans G1.out (grown_of_below hbc) (.inr rfl) (.inl rfl)) (grown_setCell wc ⟨g, j * 3 + 1, none⟩ _) (.inr rfl) (.inr rfl)) (grown_setCell _ ⟨g, j * 3 + 2, none⟩ _) (.inr rfl) (.inr rfl)
      rw [HT.out]
      clear S1 S2 S3 G1 hbc hl2 hjl2 hq2 hl3
      go_wp2
      go_roundw
      case rel => exact ⟨j + 1, m + 3, by omega, by go_num, by go_num, by show _ = _; have := HM.out; omega, S4, HGG⟩
      case measure => simp [intOf]; omega
    · have hjn : j = n := by omega
      subst hjn
      have hmk : marksSg k j ++ ss.drop j = marksSg k j := by rw [List.drop_of_length_le (by have := HN.out; omega), List.append_nil]
      rw [hmk] at H1
      clear hmk
      go_wp2
      go_ret
      exact ⟨by rw [← HM.out]; rfl, H1.out, HG.out⟩

set_option maxHeartbeats 800000 in
theorem heldSignS_some (B g cap k n : Nat) (w : World) (hl : n ≤ 300000) (hk1 : k ≤ 1000000) (hk0 : 0 < k) (hown : OwnsSg w B (.slice (some ⟨g, 0, none⟩) n cap) (marksSg k n)) :
    Calls Tryd.prog 9 #[.slice (some ⟨g, 0, none⟩) n cap, .int .i64 (k : Int)] w fun e' w' => e' = .returned (.int .i64 ((k + 3 * n : Nat) : Int)) ∧ Below w.heap.size w w' := by
  have hgl : g < w.heap.size := by
    rcases OwnsR.form hown with ⟨h1, _⟩ | ⟨g', cap', h1, h2, h3⟩
    · cases h1
    · rw [marksSg_len] at h1
      cases h1
      exact h3
  have HC : Hid (∀ j, j < n → w.cell? ⟨g, j * 3, none⟩ = some (.int .i64 ((k + 3 * j : Nat) : Int)) ∧ w.cell? ⟨g, j * 3 + 1, none⟩ = some (.string (mkT (k + 3 * j + 1))) ∧ w.cell? ⟨g, j * 3 + 2, none⟩ = some (.int .i64 ((k + 3 * j + 2 : Nat) : Int))) := fun j hj => by
    have hjl : j < (marksSg k n).length := by rw [marksSg_len]; exact hj
    have he : (marksSg k n)[j] = markSg (k + 3 * j) := by simp [marksSg]
    have a0 := OwnsR.cell sgC_len hown (marksSg_len k n).symm j 0 hjl (by omega)
    have a1 := OwnsR.cell sgC_len hown (marksSg_len k n).symm j 1 hjl (by omega)
    have a2 := OwnsR.cell sgC_len hown (marksSg_len k n).symm j 2 hjl (by omega)
    rw [he] at a0 a1 a2
    exact ⟨a0, a1, a2⟩
  clear hown
  go_enter Tryd.func9, Tryd.ntmps9
  go_wp2
  go_loopw [1, 5] (fun kk i wr => ∃ (j m : Nat), j ≤ n ∧ i = .int .i64 (j : Int) ∧ kk = .int .i64 (m : Int) ∧ Hid (m = k + 3 * j) ∧ Below w.heap.size w wr)
    (fun _ i _ => n - (intOf i).toNat)
  case atStart => exact ⟨0, k, Nat.zero_le _, rfl, rfl, rfl, Below.refl _ _⟩
  case round =>
    obtain ⟨j, m, hj, rfl, rfl, HM, hnx⟩ := hrel
    have hm : m ≤ 2000000 := by have := HM.out; omega
    have hm0 : 0 < m := by have := HM.out; omega
    have hsz := hnx.size
    by_cases hlt : j < n
    · have hj0 : (0 : Int) ≤ (j : Int) := by omega
      have hj1 : (j : Int) < (n : Int) := by omega
      obtain ⟨a0, a1, a2⟩ := HC.out j hlt
      rw [← HM.out] at a0 a1 a2
      have c0 := (hnx.cell (p := ⟨g, j * 3, none⟩) hgl).trans a0
      have c1 := (hnx.cell (p := ⟨g, j * 3 + 1, none⟩) hgl).trans a1
      have c2 := (hnx.cell (p := ⟨g, j * 3 + 2, none⟩) hgl).trans a2
      clear a0 a1 a2
      have hgr : g < wr.heap.size := by omega
      obtain ⟨s, hs⟩ : ∃ s, Hid (s = mkT (m + 1)) := ⟨_, (rfl : mkT (m + 1) = mkT (m + 1))⟩
      rw [← hs.out] at c1
      go_wp2_with fail
      go_region_held3 (fun w' => w'.cell? ⟨g, j * 3 + 1, none⟩ = some (.string s)) (first | go_keep | (show _ = _; rw [hbc.cell (p := ⟨g, j * 3 + 1, none⟩) hgr]; assumption)) ((go_at_call 27; refine (markText_any (m + 1) _ ?_ ?_).mono ?_; omega; omega; rw [← hs.out]; rintro e' wc ⟨rfl, hbc⟩))
      all_goals
        have c2' : wc.cell? ⟨g, j * 3 + 2, none⟩ = some (.int .i64 ((m + 2 : Nat) : Int)) := (hbc.cell (p := ⟨g, j * 3 + 2, none⟩) hgr).trans c2
        clear c0 c1 c2
        go_wp2
        go_roundw
        case rel => exact ⟨j + 1, m + 3, by omega, by go_num, by go_num, by show _ = _; have := HM.out; omega, hnx.trans ((Below.refl _ _).drew.trans (hbc.mono hsz))⟩
        case measure => simp [intOf]; omega
    · have hjn : j = n := by omega
      subst hjn
      go_wp2
      go_ret
      exact ⟨by rw [← HM.out]; rfl, hnx⟩

theorem markSignS_none (ao : Option Addr) (c : Nat) (k : Int) (w : World) :
    Calls Tryd.prog 8 #[.slice ao 0 c, .int .i64 k] w fun e w' => e = .returned (.int .i64 k) ∧ w' = w := by
  go_enter Tryd.func8, Tryd.ntmps8
  go_wp2
  refine wp_loop_rounds 1 ?_
  rw [rounds_succ]
  go_wp2
  go_ret
  exact ⟨rfl, rfl⟩
theorem heldSignS_none (ao : Option Addr) (c : Nat) (k : Int) (w : World) :
    Calls Tryd.prog 9 #[.slice ao 0 c, .int .i64 k] w fun e w' => e = .returned (.int .i64 k) ∧ w' = w := by
  go_enter Tryd.func9, Tryd.ntmps9
  go_wp2
  refine wp_loop_rounds 1 ?_
  rw [rounds_succ]
  go_wp2
  go_ret
  exact ⟨rfl, rfl⟩
theorem markSignS_any (B : Nat) (v : Value) (k : Nat) (ss : List Sg) (w : World) (hl : ss.length ≤ 300000) (hk1 : k ≤ 1000000) (hk0 : 0 < k) (hown : OwnsSg w B v ss) :
    Calls Tryd.prog 8 #[v, .int .i64 (k : Int)] w fun e' w' => e' = .returned (.int .i64 ((k + 3 * ss.length : Nat) : Int)) ∧ OwnsSg w' B v (marksSg k ss.length) ∧ w.grownBy w' v.ownBlock := by
  rcases OwnsR.form hown with ⟨rfl, rfl⟩ | ⟨g, cap, rfl, _, _⟩
  · refine (markSignS_none none 0 k w).mono ?_
    rintro e' w' ⟨rfl, rfl⟩
    exact ⟨rfl, hown, World.grownBy.refl _ _⟩
  · exact markSignS_some B g cap k ss w hl hk1 hk0 hown
theorem heldSignS_any (B : Nat) (v : Value) (k n : Nat) (w : World) (hl : n ≤ 300000) (hk1 : k ≤ 1000000) (hk0 : 0 < k) (hown : OwnsSg w B v (marksSg k n)) :
    Calls Tryd.prog 9 #[v, .int .i64 (k : Int)] w fun e' w' => e' = .returned (.int .i64 ((k + 3 * n : Nat) : Int)) ∧ Below w.heap.size w w' := by
  rcases OwnsR.form hown with ⟨rfl, h0⟩ | ⟨g, cap, rfl, _, _⟩
  · have hn : n = 0 := by have := congrArg List.length h0; rw [marksSg_len] at this; exact this
    subst hn
    refine (heldSignS_none none 0 k w).mono ?_
    rintro e' w' ⟨rfl, rfl⟩
    exact ⟨rfl, Below.refl _ _⟩
  · rw [marksSg_len] at hown ⊢
    exact heldSignS_some B g cap k n w hl hk1 hk0 hown

end Go.Proofs.YtbanmldmdoedkaaDoor
