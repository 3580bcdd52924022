/-
  SignsOf, in the model: what it answers at every text.
-/
import Derived.Test.YtepkcabeoennlaaDoorMarks3
import Derived.Test.YtepkcabeoennlaaDoorPlain10
import Derived.Test.YtepkcabeoennlaaDoorRecs
namespace Go.Proofs.YtepkcabeoennlaaDoor
open Go.RowKit

/-- A sign's cells. -/
def sgC (s : Sg) : List Value := [.int .i64 s.kind, .string s.text, .int .i64 s.num]
theorem sgC_len (s : Sg) : (sgC s).length = 3 := rfl
theorem sgC_ones (s : Sg) : ∀ u ∈ sgC s, u.oneCell' = true := by
  intro u hu
  simp [sgC] at hu
  rcases hu with rfl | rfl | rfl <;> rfl
theorem Tryd.infoSg : (Tryd.prog.info? 40).map (fun i => (i.zero, i.size, i.bytes)) = some (some (.agg #[.int .i64 0, .string ByteArray.empty, .int .i64 0]), 3, 32) := by kernel_rfl

/-- A row of signs that the call owns. -/
def OwnsSg (w : World) (B : Nat) (v : Value) (ss : List Sg) : Prop := OwnsR sgC 3 w B 40 v ss

theorem specSignsOf_long (t : ByteArray) (w : World) (h : 3000 < t.size) :
    Calls Tryd.prog 10 #[.string t] w fun e w' => ∃ v, e = .returned (.tuple #[v, .bool (signsOf t).2]) ∧ OwnsSg w' w.heap.size v (signsOf t).1 ∧ Below w.heap.size w w' := by
  have HS : Hid (signsOf t = ([], false)) := by show _ = _; unfold signsOf; rw [if_pos h]
  go_enter Tryd.func10, Tryd.ntmps10
  go_wp2
  go_ret2
  exact ⟨_, by rw [HS.out]; rfl, by rw [HS.out]; exact World.ownsRow_made w #[] 0 (Nat.le_refl _) (by decide) rfl, (Below.refl _ _).alloc (Nat.le_refl _) _⟩

set_option maxRecDepth 100000 in
set_option maxHeartbeats 1600000 in
theorem specSignsOf_short (t : ByteArray) (w : World) (h : t.size ≤ 3000) :
    Calls Tryd.prog 10 #[.string t] w fun e w' => ∃ v, e = .returned (.tuple #[v, .bool (signsOf t).2]) ∧ OwnsSg w' w.heap.size v (signsOf t).1 ∧ Below w.heap.size w w' := by
  go_enter Tryd.func10, Tryd.ntmps10
  go_wp2
  go_loopw [5, 6, 7, 8, 9] (fun o a _ _ _ wr => ∃ (p : Nat) (ss : List Sg), p ≤ t.size ∧ a = .int .i64 (p : Int) ∧ Hid (ReadTo t p ss ∧ ss.length ≤ p) ∧ OwnsR sgC 3 wr (w.heap.size + 1) 40 o ss ∧ Hid (Below w.heap.size w wr ∧ OwnsSg wr w.heap.size (.slice (some ⟨w.heap.size, 0, none⟩) 0 0) [] ∧ w.heap.size + 1 ≤ wr.heap.size))
    (fun _ a _ _ _ _ => t.size - (intOf a).toNat)
  case atStart => exact ⟨0, [], Nat.zero_le _, rfl, ⟨readTo_start t, Nat.le_refl _⟩, (by have h0 := World.ownsRow_made (base := w.heap.size + 1) (e := 40) (size := 3) (w.alloc (.cells #[] 40)) #[] 0 (by simp) (by decide) rfl; simpa [OwnsR] using h0), ⟨((Below.refl _ _).alloc (Nat.le_refl _) _).alloc (by simp) _, World.ownsRow.alloc (World.ownsRow_made w #[] 0 (Nat.le_refl _) (by decide) rfl) _, by simp⟩⟩
  case round =>
    obtain ⟨p, ss, hp, rfl, HR, hown, HW⟩ := hrel
    have hssl : ss.length ≤ 3000 := by have := HR.out.2; omega
    have hsz : w.heap.size + 1 ≤ wr.heap.size := HW.out.2.2
    by_cases hlt : p < t.size
    · have hp1 : (p : Int) < (t.size : Int) := by omega
      have hp0 : (0 : Int) ≤ (p : Int) := by omega
      obtain ⟨x, hx⟩ : ∃ x : Int, Hid (x = (t[p].toNat : Int)) := ⟨_, (rfl : (t[p].toNat : Int) = (t[p].toNat : Int))⟩
      have hix := index_at Tryd.underlying9 t p hlt (p : Int) x rfl hx.out
      by_cases hb : x = 32 ∨ x = 10
      · have HB : Hid (t[p] = 32 ∨ t[p] = 10) := by
          rcases hb with hb | hb
          · exact .inl (UInt8.toNat.inj (by have := hx.out; show t[p].toNat = 32; omega))
          · exact .inr (UInt8.toNat.inj (by have := hx.out; show t[p].toNat = 10; omega))
        rcases hb with rfl | rfl
        · go_wp2
          go_roundw
          case rel => exact ⟨p + 1, ss, by omega, by go_num, ⟨readTo_blank HR.out.1 hlt HB.out, by have := HR.out.2; omega⟩, hown, HW⟩
          case measure => simp [intOf]; omega
        · go_wp2
          go_roundw
          case rel => exact ⟨p + 1, ss, by omega, by go_num, ⟨readTo_blank HR.out.1 hlt HB.out, by have := HR.out.2; omega⟩, hown, HW⟩
          case measure => simp [intOf]; omega
      · have hb1 : (x == 32) = false := by simp; omega
        have hb2 : (x == 10) = false := by simp; omega
        have HB : Hid (¬ (t[p] = 32 ∨ t[p] = 10)) := by
          rintro (e | e)
          · exact hb (.inl (by rw [hx.out, e]; rfl))
          · exact hb (.inr (by rw [hx.out, e]; rfl))
        clear hb
        obtain ⟨bl, hbl⟩ : ∃ b, Hid (isLet t[p] = b) := ⟨_, (rfl : isLet t[p] = isLet t[p])⟩
        cases bl
        · obtain ⟨bf, hbf⟩ : ∃ b, Hid (isFig t[p] = b) := ⟨_, (rfl : isFig t[p] = isFig t[p])⟩
          cases bf
          · obtain ⟨M, HMk⟩ : ∃ M, Hid (markT (t.data.toList.drop p) = M) := ⟨_, (rfl : markT (t.data.toList.drop p) = markT (t.data.toList.drop p))⟩
            have HMore := mark_more hlt HB.out (by rw [hbl.out]; simp) (by rw [hbf.out]; simp) HMk.out
            by_cases hM0 : M.size = 0
            · have HE : Hid (signsOf t = ([], false)) := readTo_bad HR.out.1 h (HMore.1 hM0)
              clear HMore
              have hMe : M = ⟨#[]⟩ := by
                cases M
                simp [ByteArray.size] at hM0
                rw [hM0]
              subst hMe
              go_wp2_with (first | (go_at_call 32; refine (l03Letter_at t[p] x false hx hbl _).mono ?_; rintro e w1 ⟨rfl, rfl⟩) | (go_at_call 33; refine (l03Figure_at t[p] x false hx hbf _).mono ?_; rintro e w1 ⟨rfl, rfl⟩) | (go_at_call 34; refine (l03Mark_any t p _ h hp).mono ?_; rw [HMk.out]; rintro e w1 ⟨rfl, hbm⟩))
              go_ret2
              exact ⟨_, by rw [HE.out]; rfl, by rw [HE.out]; exact World.ownsRow.kept HW.out.2.1 (grown_of_below hbm) (Classical.em _), HW.out.1.trans (hbm.mono (by omega))⟩
            · have HM := (HMore.2 (by omega)).2
              have hMs := (HMore.2 (by omega)).1
              have HM' : Hid (signs (t.data.toList.drop p) = (signs (t.data.toList.drop (p + M.size))).map (⟨3, M, 0⟩ :: ·)) := HM
              clear HMore HM
              have hMn : (M.toList == []) = false := by
                rw [ByteArray.toList_eq]
                have h1 := tlen M
                cases hM : M.data.toList with
                | nil => rw [hM] at h1; simp at h1; omega
                | cons a b => rfl
              go_wp2_with (first | (go_at_call 32; refine (l03Letter_at t[p] x false hx hbl _).mono ?_; rintro e w1 ⟨rfl, rfl⟩) | (go_at_call 33; refine (l03Figure_at t[p] x false hx hbf _).mono ?_; rintro e w1 ⟨rfl, rfl⟩))
              go_at_call 34
              refine (l03Mark_any t p _ h hp).mono ?_
              rw [HMk.out]
              rintro e w3 ⟨rfl, hbm⟩
              have hown3 := hown.below hbm
              have hsz3 : w.heap.size + 1 ≤ w3.heap.size := Nat.le_trans hsz hbm.size
              have HW3 : Hid (Below w.heap.size w w3 ∧ OwnsSg w3 w.heap.size (.slice (some ⟨w.heap.size, 0, none⟩) 0 0) [] ∧ w.heap.size + 1 ≤ w3.heap.size) := ⟨HW.out.1.trans (hbm.mono (by omega)), World.ownsRow.kept HW.out.2.1 (grown_of_below hbm) (Classical.em _), hsz3⟩
              clear hbm hown hsz HW hix hb1 hb2
              go_wp2_with (at_builtin; go_must (refine appendR sgC_len rfl _ _ 24 rfl (w.heap.size + 1) 40 _ 32 Tryd.underlying24 Tryd.infoSg rfl (by decide) hown3 ⟨3, M, 0⟩ (sgC_ones _) rfl rfl (by omega) (by omega) hsz3 ?_); intro v2 w2 hown2 hb2 hs2 hg2)
              go_roundw
              case rel => exact ⟨p + M.size, ss ++ [⟨3, M, 0⟩], hMs, by go_num, ⟨readTo_more HR.out.1 HM'.out, by have := HR.out.2; simp; omega⟩, hown2, ⟨HW3.out.1.trans ((hb2 _ (Below.refl _ _)).mono (by omega)), World.ownsRow.kept HW3.out.2.1 hg2 (by rcases own_ne hown3 (show w.heap.size < w.heap.size + 1 by omega) with h | h; exact .inr (by rw [h]; simp [Value.ownBlock]); exact .inr (fun e => h e.symm)), by omega⟩⟩
              case measure => simp [intOf]; omega
          · go_wp2_with (first | (go_at_call 32; refine (l03Letter_at t[p] x false hx hbl _).mono ?_; rintro e w1 ⟨rfl, rfl⟩) | (go_at_call 33; refine (l03Figure_at t[p] x true hx hbf _).mono ?_; rintro e w1 ⟨rfl, rfl⟩))
            go_loop [7, 8] (fun n v => ∃ j m : Nat, p ≤ j ∧ j ≤ t.size ∧ j ≤ p + 11 ∧ n = .int .i64 (j : Int) ∧ v = .int .i64 (m : Int) ∧ m < 100000000000 ∧ Hid (m < 10 ^ (j - p)) ∧ Hid (Run isFig t p j ∧ m = valD ((t.data.toList.drop p).take (j - p)))) (fun n _ => t.size - (intOf n).toNat)
            case atStart => exact ⟨p, 0, Nat.le_refl _, hp, by omega, rfl, rfl, by omega, (by simp : 0 < 10 ^ (p - p)), run_start isFig t p, by simp [valD]⟩
            case round =>
              obtain ⟨j, m, hpj, hj, hj11, rfl, rfl, hm11, Hm10, HRun⟩ := hrel
              clear hix hb1 hb2
              by_cases hjl : j < t.size
              · have hjl' : (j : Int) < (t.size : Int) := by omega
                obtain ⟨y, hy⟩ : ∃ y : Int, Hid (y = (t[j].toNat : Int)) := ⟨_, (rfl : (t[j].toNat : Int) = (t[j].toNat : Int))⟩
                have hiy := index_at Tryd.underlying9 t j hjl (j : Int) y rfl hy.out
                obtain ⟨b2, hb2⟩ : ∃ b, Hid (isFig t[j] = b) := ⟨_, (rfl : isFig t[j] = isFig t[j])⟩
                cases b2
                · have he : Hid (∀ hj : j < t.size, isFig t[j] = false) := fun _ => hb2.out
                  have hpj1 : p < j := by
                    rcases Nat.lt_or_ge p j with h' | h'
                    · exact h'
                    · obtain rfl : j = p := by omega
                      have := he.out hlt
                      rw [hbf.out] at this
                      cases this
                  have HS := num_more hlt HB.out (by rw [hbl.out]; simp) hbf.out hpj hj HRun.out.1 he.out
                  rw [← HRun.out.2] at HS
                  by_cases h10 : 10 < j - p
                  · have HE : Hid (signsOf t = ([], false)) := readTo_bad HR.out.1 h (by rw [HS, if_pos (.inl h10)])
                    clear HS
                    have h10' : (10 : Int) < (j : Int) - (p : Int) := by omega
                    go_wp2_with (first | (go_at_call 33; refine (l03Figure_at t[j] y false hy hb2 _).mono ?_; rintro e w1 ⟨rfl, rfl⟩))
                    go_ret2
                    exact ⟨_, by rw [HE.out]; rfl, by rw [HE.out]; exact HW.out.2.1, HW.out.1⟩
                  · have h10' : ¬ (10 : Int) < (j : Int) - (p : Int) := by omega
                    by_cases hM : 1000000000 < m
                    · have HE : Hid (signsOf t = ([], false)) := readTo_bad HR.out.1 h (by rw [HS, if_pos (.inr hM)])
                      clear HS
                      have hM' : (1000000000 : Int) < (m : Int) := by omega
                      go_wp2_with (first | (go_at_call 33; refine (l03Figure_at t[j] y false hy hb2 _).mono ?_; rintro e w1 ⟨rfl, rfl⟩))
                      go_ret2
                      exact ⟨_, by rw [HE.out]; rfl, by rw [HE.out]; exact HW.out.2.1, HW.out.1⟩
                    · have HM : Hid (signs (t.data.toList.drop p) = (signs (t.data.toList.drop j)).map (⟨2, ⟨#[]⟩, (m : Int)⟩ :: ·)) := by show _ = _; rw [HS, if_neg (by omega)]
                      clear HS
                      have hM' : ¬ (1000000000 : Int) < (m : Int) := by omega
                      go_wp2_with (first | (go_at_call 33; refine (l03Figure_at t[j] y false hy hb2 _).mono ?_; rintro e w1 ⟨rfl, rfl⟩) | (at_builtin; go_must (refine appendR sgC_len rfl _ _ 24 rfl (w.heap.size + 1) 40 _ 32 Tryd.underlying24 Tryd.infoSg rfl (by decide) hown ⟨2, ⟨#[]⟩, (m : Int)⟩ (sgC_ones _) rfl rfl (by omega) (by omega) hsz ?_); intro v2 w2 hown2 hb2 hs2 hg2))
                      go_roundw
                      case rel => exact ⟨j, ss ++ [⟨2, ⟨#[]⟩, (m : Int)⟩], hj, by go_num, ⟨readTo_more HR.out.1 HM.out, by have := HR.out.2; simp; omega⟩, hown2, ⟨HW.out.1.trans ((hb2 _ (Below.refl _ _)).mono (by omega)), World.ownsRow.kept HW.out.2.1 hg2 (by rcases own_ne hown (show w.heap.size < w.heap.size + 1 by omega) with h | h; exact .inr (by rw [h]; simp [Value.ownBlock]); exact .inr (fun e => h e.symm)), by omega⟩⟩
                      case measure => simp [intOf]; omega
                · by_cases h10 : 10 < j - p
                  · have h10' : (10 : Int) < (j : Int) - (p : Int) := by omega
                    have HE : Hid (signsOf t = ([], false)) := readTo_bad HR.out.1 h (num_long hlt HB.out (by rw [hbl.out]; simp) hbf.out hj HRun.out.1 h10)
                    go_wp2_with (first | (go_at_call 33; refine (l03Figure_at t[j] y true hy hb2 _).mono ?_; rintro e w1 ⟨rfl, rfl⟩))
                    go_ret2
                    exact ⟨_, by rw [HE.out]; rfl, by rw [HE.out]; exact HW.out.2.1, HW.out.1⟩
                  · have h10' : ¬ (10 : Int) < (j : Int) - (p : Int) := by omega
                    have hfy : 48 ≤ y ∧ y ≤ 57 := by
                      have h1 := hb2.out
                      have h2 := hy.out
                      simp [isFig] at h1
                      omega
                    have HV : Hid (m < 10000000000 ∧ 10 * m + (t[j].toNat - 48) < 10 ^ (j + 1 - p)) := by
                      have h1 := Hm10.out
                      have h2 : 10 ^ (j - p) ≤ 10 ^ 10 := Nat.pow_le_pow_right (by omega) (by omega)
                      have h3 := hy.out
                      refine ⟨by omega, ?_⟩
                      rw [show j + 1 - p = (j - p) + 1 by omega, Nat.pow_succ]
                      omega
                    have hm10 : m < 10000000000 := HV.out.1
                    go_wp2_with (first | (go_at_call 33; refine (l03Figure_at t[j] y true hy hb2 _).mono ?_; rintro e w1 ⟨rfl, rfl⟩))
                    go_round
                    case rel => exact ⟨j + 1, 10 * m + (t[j].toNat - 48), by omega, by omega, by omega, by go_num, by have h2 := hy.out; congr 1; omega, by have h2 := hy.out; omega, HV.out.2, run_succ HRun.out.1 hjl hb2.out, by rw [valD_run hpj hjl, ← HRun.out.2]⟩
                    case measure => simp [intOf]; omega
              · have he : Hid (∀ hj : j < t.size, isFig t[j] = false) := fun hj => by omega
                have hpj1 : p < j := by
                  rcases Nat.lt_or_ge p j with h' | h'
                  · exact h'
                  · obtain rfl : j = p := by omega
                    have := he.out hlt
                    rw [hbf.out] at this
                    cases this
                have HS := num_more hlt HB.out (by rw [hbl.out]; simp) hbf.out hpj hj HRun.out.1 he.out
                rw [← HRun.out.2] at HS
                by_cases h10 : 10 < j - p
                · have HE : Hid (signsOf t = ([], false)) := readTo_bad HR.out.1 h (by rw [HS, if_pos (.inl h10)])
                  clear HS
                  have h10' : (10 : Int) < (j : Int) - (p : Int) := by omega
                  go_wp2
                  go_ret2
                  exact ⟨_, by rw [HE.out]; rfl, by rw [HE.out]; exact HW.out.2.1, HW.out.1⟩
                · have h10' : ¬ (10 : Int) < (j : Int) - (p : Int) := by omega
                  by_cases hM : 1000000000 < m
                  · have HE : Hid (signsOf t = ([], false)) := readTo_bad HR.out.1 h (by rw [HS, if_pos (.inr hM)])
                    clear HS
                    have hM' : (1000000000 : Int) < (m : Int) := by omega
                    go_wp2
                    go_ret2
                    exact ⟨_, by rw [HE.out]; rfl, by rw [HE.out]; exact HW.out.2.1, HW.out.1⟩
                  · have HM : Hid (signs (t.data.toList.drop p) = (signs (t.data.toList.drop j)).map (⟨2, ⟨#[]⟩, (m : Int)⟩ :: ·)) := by show _ = _; rw [HS, if_neg (by omega)]
                    clear HS
                    have hM' : ¬ (1000000000 : Int) < (m : Int) := by omega
                    go_wp2_with (at_builtin; go_must (refine appendR sgC_len rfl _ _ 24 rfl (w.heap.size + 1) 40 _ 32 Tryd.underlying24 Tryd.infoSg rfl (by decide) hown ⟨2, ⟨#[]⟩, (m : Int)⟩ (sgC_ones _) rfl rfl (by omega) (by omega) hsz ?_); intro v2 w2 hown2 hb2 hs2 hg2)
                    go_roundw
                    case rel => exact ⟨j, ss ++ [⟨2, ⟨#[]⟩, (m : Int)⟩], hj, by go_num, ⟨readTo_more HR.out.1 HM.out, by have := HR.out.2; simp; omega⟩, hown2, ⟨HW.out.1.trans ((hb2 _ (Below.refl _ _)).mono (by omega)), World.ownsRow.kept HW.out.2.1 hg2 (by rcases own_ne hown (show w.heap.size < w.heap.size + 1 by omega) with h | h; exact .inr (by rw [h]; simp [Value.ownBlock]); exact .inr (fun e => h e.symm)), by omega⟩⟩
                    case measure => simp [intOf]; omega
        · go_wp2_with (go_at_call 32; refine (l03Letter_at t[p] x true hx hbl _).mono ?_; rintro e w1 ⟨rfl, rfl⟩)
          go_loop [7] (fun n => ∃ j : Nat, p ≤ j ∧ j ≤ t.size ∧ n = .int .i64 (j : Int) ∧ Hid (Run isLF t p j)) (fun n => t.size - (intOf n).toNat)
          case atStart => exact ⟨p, Nat.le_refl _, hp, rfl, run_start isLF t p⟩
          case round =>
            obtain ⟨j, hpj, hj, rfl, HRun⟩ := hrel
            clear hix hb1 hb2
            by_cases hjl : j < t.size
            · have hjl' : (j : Int) < (t.size : Int) := by omega
              obtain ⟨y, hy⟩ : ∃ y : Int, Hid (y = (t[j].toNat : Int)) := ⟨_, (rfl : (t[j].toNat : Int) = (t[j].toNat : Int))⟩
              have hiy := index_at Tryd.underlying9 t j hjl (j : Int) y rfl hy.out
              obtain ⟨b1, hb1⟩ : ∃ b, Hid (isLet t[j] = b) := ⟨_, (rfl : isLet t[j] = isLet t[j])⟩
              obtain ⟨b2, hb2⟩ : ∃ b, Hid (isFig t[j] = b) := ⟨_, (rfl : isFig t[j] = isFig t[j])⟩
              cases b1
              · cases b2
                · have he : Hid (∀ hj : j < t.size, isLF t[j] = false) := fun _ => by simp [isLF, hb1.out, hb2.out]
                  have hpj1 : p < j := by
                    rcases Nat.lt_or_ge p j with h' | h'
                    · exact h'
                    · obtain rfl : j = p := by omega
                      have := he.out hlt
                      rw [isLF_of_let hbl.out] at this
                      cases this
                  have HS := word_more hlt HB.out hbl.out hpj hj HRun.out he.out
                  by_cases h8 : 8 < j - p
                  · have HE : Hid (signsOf t = ([], false)) := readTo_bad HR.out.1 h (by rw [HS, if_pos h8])
                    clear HS
                    have h8' : (8 : Int) < (j : Int) - (p : Int) := by omega
                    go_wp2_with (first | (go_at_call 32; refine (l03Letter_at t[j] y false hy hb1 _).mono ?_; rintro e w1 ⟨rfl, rfl⟩) | (go_at_call 33; refine (l03Figure_at t[j] y false hy hb2 _).mono ?_; rintro e w1 ⟨rfl, rfl⟩))
                    go_ret2
                    exact ⟨_, by rw [HE.out]; rfl, by rw [HE.out]; exact HW.out.2.1, HW.out.1⟩
                  · have HM : Hid (signs (t.data.toList.drop p) = (signs (t.data.toList.drop j)).map (⟨1, t.extract p j, 0⟩ :: ·)) := by show _ = _; rw [HS, if_neg h8]
                    clear HS
                    have h8' : ¬ (8 : Int) < (j : Int) - (p : Int) := by omega
                    have hj1 : (j : Int) ≤ (t.size : Int) := by omega
                    have hpj2 : (p : Int) ≤ (j : Int) := by omega
                    go_wp2_with (first | (go_at_call 32; refine (l03Letter_at t[j] y false hy hb1 _).mono ?_; rintro e w1 ⟨rfl, rfl⟩) | (go_at_call 33; refine (l03Figure_at t[j] y false hy hb2 _).mono ?_; rintro e w1 ⟨rfl, rfl⟩) | (at_builtin; go_must (refine appendR sgC_len rfl _ _ 24 rfl (w.heap.size + 1) 40 _ 32 Tryd.underlying24 Tryd.infoSg rfl (by decide) hown ⟨1, t.extract p j, 0⟩ (sgC_ones _) rfl rfl (by omega) (by omega) hsz ?_); intro v2 w2 hown2 hb2 hs2 hg2))
                    go_roundw
                    case rel => exact ⟨j, ss ++ [⟨1, t.extract p j, 0⟩], hj, by go_num, ⟨readTo_more HR.out.1 HM.out, by have := HR.out.2; simp; omega⟩, hown2, ⟨HW.out.1.trans ((hb2 _ (Below.refl _ _)).mono (by omega)), World.ownsRow.kept HW.out.2.1 hg2 (by rcases own_ne hown (show w.heap.size < w.heap.size + 1 by omega) with h | h; exact .inr (by rw [h]; simp [Value.ownBlock]); exact .inr (fun e => h e.symm)), by omega⟩⟩
                    case measure => simp [intOf]; omega
                · go_wp2_with (first | (go_at_call 32; refine (l03Letter_at t[j] y false hy hb1 _).mono ?_; rintro e w1 ⟨rfl, rfl⟩) | (go_at_call 33; refine (l03Figure_at t[j] y true hy hb2 _).mono ?_; rintro e w1 ⟨rfl, rfl⟩))
                  go_round
                  case rel => exact ⟨j + 1, by omega, by omega, by go_num, run_succ HRun.out hjl (by simp [isLF, hb1.out, hb2.out])⟩
                  case measure => simp [intOf]; omega
              · go_wp2_with (first | (go_at_call 32; refine (l03Letter_at t[j] y true hy hb1 _).mono ?_; rintro e w1 ⟨rfl, rfl⟩) | (go_at_call 33; refine (l03Figure_at t[j] y false hy hb2 _).mono ?_; rintro e w1 ⟨rfl, rfl⟩))
                go_round
                case rel => exact ⟨j + 1, by omega, by omega, by go_num, run_succ HRun.out hjl (by simp [isLF, hb1.out])⟩
                case measure => simp [intOf]; omega
            · have he : Hid (∀ hj : j < t.size, isLF t[j] = false) := fun hj => by omega
              have hpj1 : p < j := by
                rcases Nat.lt_or_ge p j with h' | h'
                · exact h'
                · obtain rfl : j = p := by omega
                  have := he.out hlt
                  rw [isLF_of_let hbl.out] at this
                  cases this
              have HS := word_more hlt HB.out hbl.out hpj hj HRun.out he.out
              by_cases h8 : 8 < j - p
              · have HE : Hid (signsOf t = ([], false)) := readTo_bad HR.out.1 h (by rw [HS, if_pos h8])
                clear HS
                have h8' : (8 : Int) < (j : Int) - (p : Int) := by omega
                go_wp2
                go_ret2
                exact ⟨_, by rw [HE.out]; rfl, by rw [HE.out]; exact HW.out.2.1, HW.out.1⟩
              · have HM : Hid (signs (t.data.toList.drop p) = (signs (t.data.toList.drop j)).map (⟨1, t.extract p j, 0⟩ :: ·)) := by show _ = _; rw [HS, if_neg h8]
                clear HS
                have h8' : ¬ (8 : Int) < (j : Int) - (p : Int) := by omega
                have hj1 : (j : Int) ≤ (t.size : Int) := by omega
                have hpj2 : (p : Int) ≤ (j : Int) := by omega
                go_wp2_with (at_builtin; go_must (refine appendR sgC_len rfl _ _ 24 rfl (w.heap.size + 1) 40 _ 32 Tryd.underlying24 Tryd.infoSg rfl (by decide) hown ⟨1, t.extract p j, 0⟩ (sgC_ones _) rfl rfl (by omega) (by omega) hsz ?_); intro v2 w2 hown2 hb2 hs2 hg2)
                go_roundw
                case rel => exact ⟨j, ss ++ [⟨1, t.extract p j, 0⟩], hj, by go_num, ⟨readTo_more HR.out.1 HM.out, by have := HR.out.2; simp; omega⟩, hown2, ⟨HW.out.1.trans ((hb2 _ (Below.refl _ _)).mono (by omega)), World.ownsRow.kept HW.out.2.1 hg2 (by rcases own_ne hown (show w.heap.size < w.heap.size + 1 by omega) with h | h; exact .inr (by rw [h]; simp [Value.ownBlock]); exact .inr (fun e => h e.symm)), by omega⟩⟩
                case measure => simp [intOf]; omega
    · have HE : Hid (signsOf t = (ss, true)) := readTo_end HR.out.1 (by omega) h
      go_wp2
      go_ret2
      exact ⟨_, by rw [HE.out]; rfl, by rw [HE.out]; exact owns_base hown (by omega), HW.out.1⟩

end Go.Proofs.YtepkcabeoennlaaDoor
