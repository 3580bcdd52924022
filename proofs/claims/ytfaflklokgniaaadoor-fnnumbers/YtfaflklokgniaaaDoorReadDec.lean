/-
  ReadDecimal, in the program and in the model: what each answers at every text.
-/
import Derived.Test.YtfaflklokgniaaaDoorDec
import Derived.Test.YtfaflklokgniaaaDoorPlain4
namespace Go.Proofs.YtfaflklokgniaaaDoor
open Go.RowKit

theorem pow10_in {k : Nat} (hk : k ≤ 10) : 1 ≤ 10 ^ k ∧ 10 ^ k ≤ 10000000000 := by
  have : k = 0 ∨ k = 1 ∨ k = 2 ∨ k = 3 ∨ k = 4 ∨ k = 5 ∨ k = 6 ∨ k = 7 ∨ k = 8 ∨ k = 9 ∨ k = 10 := by omega
  rcases this with rfl | rfl | rfl | rfl | rfl | rfl | rfl | rfl | rfl | rfl | rfl <;> decide

theorem fig_of {c : UInt8} {x : Int} (hx : x = (c.toNat : Int)) (h1 : 48 ≤ x) (h2 : x ≤ 57) : isFig c = true := by
  simp only [isFig, Bool.and_eq_true, decide_eq_true_eq]
  omega
theorem fig_not {c : UInt8} {x : Int} (hx : x = (c.toNat : Int)) (h : x < 48 ∨ 57 < x) : isFig c = false := by
  cases hf : isFig c with
  | false => rfl
  | true =>
    simp only [isFig, Bool.and_eq_true, decide_eq_true_eq] at hf
    omega

theorem implReadDecimal_empty (w : World) :
    Calls Tryd.prog 8 #[.string ⟨#[]⟩] w fun e w' => e = .returned (.tuple #[.int .i64 0, .bool false]) ∧ w' = w := by
  go_enter Tryd.func8, Tryd.ntmps8
  go_wp2
  go_step3
  go_wp2
  (try rw [Exit.noGoto_ret])
  go_ret2
  exact ⟨rfl, rfl⟩

theorem not_empty {t : ByteArray} (h : 0 < t.size) : t.toList.isEmpty = false := by
  rw [ByteArray.toList_eq, List.isEmpty_eq_false_iff]
  intro e
  have := tlen t
  rw [e] at this
  simp at this
  omega

theorem implReadDecimal_long (t : ByteArray) (w : World) (hs : t.size ≤ 1099511627776) (h : 10 < t.size) :
    Calls Tryd.prog 8 #[.string t] w fun e w' => e = .returned (.tuple #[.int .i64 0, .bool false]) ∧ w' = w := by
  have hne := not_empty (t := t) (by omega)
  go_enter Tryd.func8, Tryd.ntmps8
  go_wp2
  go_step3
  go_wp2
  (try rw [Exit.noGoto_ret])
  go_ret2
  exact ⟨rfl, rfl⟩

theorem implReadDecimal_nought (t : ByteArray) (w : World) (h : t.size ≤ 10) (h1 : 1 < t.size) (h0 : t[0].toNat = 48) :
    Calls Tryd.prog 8 #[.string t] w fun e w' => e = .returned (.tuple #[.int .i64 0, .bool false]) ∧ w' = w := by
  have hne := not_empty (t := t) (by omega)
  have hi0 := index_at (P := Tryd.prog) Tryd.underlying9 t 0 (by omega) 0 48 rfl (by omega)
  clear h0
  go_enter Tryd.func8, Tryd.ntmps8
  go_wp2
  go_step3
  go_wp2
  (try rw [Exit.noGoto_ret])
  go_ret2
  exact ⟨rfl, rfl⟩

set_option maxHeartbeats 800000 in
theorem implReadDecimal_short (t : ByteArray) (w : World) (h : t.size ≤ 10) (h1 : 0 < t.size) (h0 : t[0].toNat ≠ 48 ∨ t.size = 1) :
    Calls Tryd.prog 8 #[.string t] w fun e w' => e = .returned (.tuple #[.int .i64 (rdOut t).1, .bool (rdOut t).2]) ∧ w' = w := by
  have hne := not_empty (t := t) h1
  obtain ⟨c0, hc0⟩ : ∃ c0 : Int, c0 = (t[0].toNat : Int) := ⟨_, rfl⟩
  have hi0 := index_at (P := Tryd.prog) Tryd.underlying9 t 0 h1 0 c0 rfl hc0
  have H0 : Hid (¬ (t.data.toList.head? = some 48 ∧ 1 < t.size)) := by
    rintro ⟨e1, e2⟩
    rw [head_at h1] at e1
    have := congrArg UInt8.toNat (Option.some.inj e1)
    simp at this
    omega
  have hq : (c0 == 48 && decide (1 < (t.size : Int))) = false := by
    rcases h0 with h0 | h0
    · have : (c0 == 48) = false := by simp; omega
      simp [this]
    · simp [h0]
  clear h0 hc0
  have hcases : (c0 == 48) = false ∨ ((c0 == 48) = true ∧ ¬ 1 < t.size) := by
    cases hx : (c0 == 48) with
    | false => exact .inl rfl
    | true =>
      rw [hx] at hq
      simp at hq
      exact .inr ⟨rfl, by omega⟩
  clear hq
  rcases hcases with hq | ⟨hq, hq2⟩
  all_goals
    go_enter Tryd.func8, Tryd.ntmps8
    go_wp2
    go_step3
    go_wp2
    go_step3
    go_wp2
    go_loop [4, 5, 6] (fun n i _ => ∃ (k m : Nat), k ≤ t.size ∧ i = .int .i64 (k : Int) ∧ n = .int .i64 (m : Int) ∧ Hid (m < 10 ^ k) ∧ Hid (Dig t k m))
      (fun _ i _ => t.size - (intOf i).toNat)
    case atStart => exact ⟨0, 0, Nat.zero_le _, rfl, rfl, by show _ < _; decide, dig_zero t⟩
    case round =>
      obtain ⟨k, m, hk, rfl, rfl, HM, HD⟩ := hrel
      have hm : m ≤ 10000000000 := by have := HM.out; have := (pow10_in (show k ≤ 10 by omega)).2; omega
      by_cases hlt : k < t.size
      · obtain ⟨c, hc⟩ : ∃ c : Int, c = (t[k].toNat : Int) := ⟨_, rfl⟩
        have hc2 : 0 ≤ c ∧ c ≤ 255 := by have := t[k].toNat_lt; omega
        have hi1 := index_at (P := Tryd.prog) Tryd.underlying9 t k hlt _ _ rfl hc
        have HC : Hid (c = (t[k].toNat : Int)) := hc
        clear hc
        by_cases ha : c < 48
        · go_wp2
          (try rw [Exit.noGoto_ret])
          go_ret2
          exact ⟨by rw [rd_nofig hlt (fig_not HC.out (.inl ha))]; rfl, rfl⟩
        · by_cases hb : 57 < c
          · go_wp2
            (try rw [Exit.noGoto_ret])
            go_ret2
            exact ⟨by rw [rd_nofig hlt (fig_not HC.out (.inr hb))]; rfl, rfl⟩
          · have HN2 : Hid (Dig t (k + 1) (10 * m + (t[k].toNat - 48))) := dig_succ HD.out hlt (fig_of HC.out (by omega) (by omega))
            go_wp2
            go_round
            case rel => exact ⟨k + 1, 10 * m + (t[k].toNat - 48), by omega, by go_num, by have := HC.out; go_num, by show _ < _; have := HC.out; have := HM.out; rw [Nat.pow_succ]; omega, HN2⟩
            case measure => simp [intOf]; omega
      · have he := dig_end HD.out (show k = t.size by omega)
        by_cases hbig : 1000000000 < m
        · have HV : Hid (rdOut t = (0, false)) := rd_great (by rw [← he.1]; exact hbig)
          clear he
          go_wp2
          (try rw [Exit.noGoto_ret])
          go_ret2
          exact ⟨by rw [HV.out]; rfl, rfl⟩
        · have HV : Hid (rdOut t = ((m : Int), true)) := by
            show _ = _
            rw [rd_good h he.2 h1 H0.out (by rw [← he.1]; omega), ← he.1]
          clear he
          go_wp2
          (try rw [Exit.noGoto_ret])
          go_ret2
          exact ⟨by rw [HV.out]; rfl, rfl⟩

end Go.Proofs.YtfaflklokgniaaaDoor
