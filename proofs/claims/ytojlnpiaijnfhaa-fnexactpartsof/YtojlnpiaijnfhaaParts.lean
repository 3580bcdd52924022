/-
  PartsOf, in the program and in the model: what each answers at every line.
-/
import Derived.Test.YtojlnpiaijnfhaaShort
import Derived.Test.YtojlnpiaijnfhaaPlain5
import Derived.Test.YtojlnpiaijnfhaaMarks
namespace Go.Proofs.Ytojlnpiaijnfhaa
open Go.RowKit

theorem Try.infoS : (Try.prog.info? 9).map (fun i => (i.zero, i.size, i.bytes)) = some (some (.string ByteArray.empty), 1, 16) := by kernel_rfl

theorem ch_int {t : ByteArray} {k : Nat} (h : k < t.size) {c : Int} (hc : c = (t[k].toNat : Int)) : (chAt t k : Int) = c := by rw [chAt_in h, hc]
theorem ok_int {t : ByteArray} {k : Nat} (h : k < t.size) {c : Int} (hc : c = (t[k].toNat : Int)) (h1 : 32 ≤ c) (h2 : c ≤ 126) : chOk t k = true := by
  have := ch_int h hc
  simp only [chOk, Bool.and_eq_true, decide_eq_true_eq]
  omega
theorem ok_not {t : ByteArray} {k : Nat} (h : k < t.size) {c : Int} (hc : c = (t[k].toNat : Int)) (h1 : c < 32 ∨ 126 < c) : chOk t k = false := by
  have := ch_int h hc
  cases hf : chOk t k with
  | false => rfl
  | true =>
    simp only [chOk, Bool.and_eq_true, decide_eq_true_eq] at hf
    omega

theorem slice_bk (t : ByteArray) (b k : Nat) (h : b ≤ k) (hk : k ≤ t.size) (wx : World) : (Instr.slice 9 (.string t) (some (.int .i64 (b : Int))) (some (.int .i64 (k : Int))) none).run Try.prog wx = .ok (.string (t.extract b k)) wx := by
  have := run_slice_string (P := Try.prog) wx 9 t .i64 .i64 (b : Int) (k : Int) Try.underlying9 (by omega) (by omega) (by omega)
  simpa using this

theorem specPartsOf_long (t : ByteArray) (w : World) (h : 600 < t.size) :
    Calls Try.prog 25 #[.string t] w fun e w' => ∃ v, e = .returned (.tuple #[v, .bool (poOut t).2]) ∧ OwnsS w' w.heap.size 9 v (poOut t).1 ∧ Below w.heap.size w w' := by
  go_enter Try.func25, Try.ntmps25
  go_wp2
  go_ret2
  exact ⟨_, by rw [po_long h]; rfl, by rw [po_long h]; exact World.ownsRow_made w #[] 0 (Nat.le_refl _) (by decide) rfl, (Below.refl _ _).alloc (Nat.le_refl _) _⟩

set_option maxHeartbeats 1600000 in
theorem specPartsOf_short (t : ByteArray) (w : World) (h : t.size ≤ 600) :
    Calls Try.prog 25 #[.string t] w fun e w' => ∃ v, e = .returned (.tuple #[v, .bool (poOut t).2]) ∧ OwnsS w' w.heap.size 9 v (poOut t).1 ∧ Below w.heap.size w w' := by
  go_enter Try.func25, Try.ntmps25
  go_wp2
  go_loopw [4, 5, 6] (fun v bg i wr => ∃ (k b : Nat) (ps : List ByteArray), k ≤ t.size + 1 ∧ b ≤ k ∧ ps.length ≤ k ∧ i = .int .i64 (k : Int) ∧ bg = .int .i64 (b : Int) ∧ Hid (poSt t k = (b, ps)) ∧ OwnsS wr w.heap.size 9 v ps ∧ Hid (Oks t k) ∧ Below w.heap.size w wr)
    (fun _ _ i _ => t.size + 1 - (intOf i).toNat)
  case atStart => exact ⟨0, 0, [], by omega, Nat.le_refl _, Nat.le_refl _, rfl, rfl, rfl, World.ownsRow_made w #[] 0 (Nat.le_refl _) (by decide) rfl, oks_zero t, (Below.refl _ _).alloc (Nat.le_refl _) _⟩
  case round =>
    obtain ⟨k, b, ps, hk, hb, hps, rfl, rfl, HS, hown, HO, hnx⟩ := hrel
    have hsz := hnx.size
    by_cases hle : k ≤ t.size
    · have hword : chAt t k ≠ 32 → Hid (poSt t (k + 1) = (b, ps)) := fun hc => by show _ = _; rw [poSt_word hc]; exact HS.out
      have hpart : chAt t k = 32 → b < k → Hid (poSt t (k + 1) = (k + 1, ps ++ [t.extract b k])) := fun hc hlt => by
        show _ = _
        rw [poSt_part hc (by rw [HS.out]; exact hlt), HS.out]
      have hnone : chAt t k = 32 → ¬ b < k → Hid (poSt t (k + 1) = (k + 1, ps)) := fun hc hlt => by
        show _ = _
        rw [poSt_none hc (by rw [HS.out]; exact hlt), HS.out]
      have hsl := slice_bk t b k hb hle
      by_cases hlt : k < t.size
      · obtain ⟨c, hc⟩ : ∃ c : Int, c = (t[k].toNat : Int) := ⟨_, rfl⟩
        have hc2 : 0 ≤ c ∧ c ≤ 255 := by have := t[k].toNat_lt; omega
        have hi1 := index_at (P := Try.prog) Try.underlying9 t k hlt _ _ rfl hc
        have HC : Hid ((chAt t k : Int) = c) := ch_int hlt hc
        have HK : (c < 32 ∨ 126 < c) → Hid (poOut t = ([], false)) := fun hx => po_bad hlt (ok_not hlt hc hx)
        have HG : 32 ≤ c → c ≤ 126 → Hid (Oks t (k + 1)) := fun h1 h2 => oks_succ HO.out (fun _ => ok_int hlt hc h1 h2)
        clear hc
        by_cases ha : c < 32
        · have HP := HK (.inl ha)
          clear HK HG hword hpart hnone
          go_wp2
          go_ret2
          exact ⟨_, by rw [HP.out]; rfl, by rw [HP.out]; exact World.ownsRow_made wr #[] 0 hsz (by decide) rfl, hnx.alloc hsz _⟩
        · by_cases hb2 : 126 < c
          · have HP := HK (.inr hb2)
            clear HK HG hword hpart hnone
            go_wp2
            go_ret2
            exact ⟨_, by rw [HP.out]; rfl, by rw [HP.out]; exact World.ownsRow_made wr #[] 0 hsz (by decide) rfl, hnx.alloc hsz _⟩
          · have HG2 := HG (by omega) (by omega)
            clear HK HG
            by_cases hsp : c = 32
            · have hch : chAt t k = 32 := by have := HC.out; omega
              by_cases hbk : b < k
              · have HN := hpart hch hbk
                clear hword hpart hnone hch
                subst hsp
                go_wp2_with (at_builtin; refine appendS rfl _ _ 34 rfl w.heap.size 9 Try.underlying34 Try.infoS hown (t.extract b k) rfl rfl (by omega) hsz ?_; intro v1 w1 hown1 hb1 _)
                go_roundw
                case rel => exact ⟨k + 1, k + 1, _, by omega, Nat.le_refl _, by simp; omega, by go_num, by go_num, HN, hown1, HG2, hb1 _ hnx⟩
                case measure => simp [intOf]; omega
              · have HN := hnone hch hbk
                clear hword hpart hnone hch
                subst hsp
                go_wp2
                go_roundw
                case rel => exact ⟨k + 1, k + 1, _, by omega, Nat.le_refl _, by omega, by go_num, by go_num, HN, hown, HG2, hnx⟩
                case measure => simp [intOf]; omega
            · have hch : chAt t k ≠ 32 := by have := HC.out; omega
              have hsp2 : (c != 32) = true := by simp; exact hsp
              have HN := hword hch
              clear hword hpart hnone hch hsp
              go_wp2
              go_roundw
              case rel => exact ⟨k + 1, b, _, by omega, by omega, by omega, by go_num, rfl, HN, hown, HG2, hnx⟩
              case measure => simp [intOf]; omega
      · have hch : chAt t k = 32 := chAt_end hlt
        have HG2 : Hid (Oks t (k + 1)) := oks_succ HO.out (fun hx => absurd hx hlt)
        by_cases hbk : b < k
        · have HN := hpart hch hbk
          clear hword hpart hnone hch
          go_wp2_with (at_builtin; refine appendS rfl _ _ 34 rfl w.heap.size 9 Try.underlying34 Try.infoS hown (t.extract b k) rfl rfl (by omega) hsz ?_; intro v1 w1 hown1 hb1 _)
          go_roundw
          case rel => exact ⟨k + 1, k + 1, _, by omega, Nat.le_refl _, by simp; omega, by go_num, by go_num, HN, hown1, HG2, hb1 _ hnx⟩
          case measure => simp [intOf]; omega
        · have HN := hnone hch hbk
          clear hword hpart hnone hch
          go_wp2
          go_roundw
          case rel => exact ⟨k + 1, k + 1, _, by omega, Nat.le_refl _, by omega, by go_num, by go_num, HN, hown, HG2, hnx⟩
          case measure => simp [intOf]; omega
    · have hkt : k = t.size + 1 := by omega
      have HS2 : Hid ((poSt t (t.size + 1)).2 = ps) := by show _ = _; rw [← hkt, HS.out]
      rcases hown.form with ⟨rfl, rfl⟩ | ⟨g, cap, rfl, hg1, hg2⟩
      · have HP : Hid (poOut t = ([], true)) := by
          show _ = _
          rw [po_good h HO.out (by omega) (by rw [HS2.out]; simp), HS2.out]
        clear hkt
        go_wp2
        go_ret2
        exact ⟨_, by rw [HP.out]; rfl, by rw [HP.out]; exact hown, hnx⟩
      · by_cases hm : 10 < ps.length
        · have HP : Hid (poOut t = ([], false)) := po_many (by rw [HS2.out]; exact hm)
          clear hkt
          go_wp2
          go_ret2
          exact ⟨_, by rw [HP.out]; rfl, by rw [HP.out]; exact World.ownsRow_made wr #[] 0 hsz (by decide) rfl, hnx.alloc hsz _⟩
        · have HP : Hid (poOut t = (ps, true)) := by
            show _ = _
            rw [po_good h HO.out (by omega) (by rw [HS2.out]; omega), HS2.out]
          clear hkt
          go_wp2
          go_ret2
          exact ⟨_, by rw [HP.out]; rfl, by rw [HP.out]; exact hown, hnx⟩

theorem implPartsOf_long (t : ByteArray) (w : World) (h : 600 < t.size) :
    Calls Try.prog 26 #[.string t] w fun e w' => ∃ v, e = .returned (.tuple #[v, .bool (poOut t).2]) ∧ OwnsS w' w.heap.size 9 v (poOut t).1 ∧ Below w.heap.size w w' := by
  go_enter Try.func26, Try.ntmps26
  go_wp2
  go_ret2
  exact ⟨_, by rw [po_long h]; rfl, by rw [po_long h]; exact World.ownsRow_nil _ _ _ _, Below.refl _ _⟩

set_option maxHeartbeats 1600000 in
theorem implPartsOf_short (t : ByteArray) (w : World) (h : t.size ≤ 600) :
    Calls Try.prog 26 #[.string t] w fun e w' => ∃ v, e = .returned (.tuple #[v, .bool (poOut t).2]) ∧ OwnsS w' w.heap.size 9 v (poOut t).1 ∧ Below w.heap.size w w' := by
  go_enter Try.func26, Try.ntmps26
  go_wp2
  go_loopw [4, 5, 6] (fun v bg i wr => ∃ (k b : Nat) (ps : List ByteArray), k ≤ t.size + 1 ∧ b ≤ k ∧ ps.length ≤ k ∧ i = .int .i64 (k : Int) ∧ bg = .int .i64 (b : Int) ∧ Hid (poSt t k = (b, ps)) ∧ OwnsS wr w.heap.size 9 v ps ∧ Hid (Oks t k) ∧ Below w.heap.size w wr)
    (fun _ _ i _ => t.size + 1 - (intOf i).toNat)
  case atStart => exact ⟨0, 0, [], by omega, Nat.le_refl _, Nat.le_refl _, rfl, rfl, rfl, World.ownsRow_nil _ _ _ _, oks_zero t, Below.refl _ _⟩
  case round =>
    obtain ⟨k, b, ps, hk, hb, hps, rfl, rfl, HS, hown, HO, hnx⟩ := hrel
    have hsz := hnx.size
    by_cases hle : k ≤ t.size
    · have hword : chAt t k ≠ 32 → Hid (poSt t (k + 1) = (b, ps)) := fun hc => by show _ = _; rw [poSt_word hc]; exact HS.out
      have hpart : chAt t k = 32 → b < k → Hid (poSt t (k + 1) = (k + 1, ps ++ [t.extract b k])) := fun hc hlt => by
        show _ = _
        rw [poSt_part hc (by rw [HS.out]; exact hlt), HS.out]
      have hnone : chAt t k = 32 → ¬ b < k → Hid (poSt t (k + 1) = (k + 1, ps)) := fun hc hlt => by
        show _ = _
        rw [poSt_none hc (by rw [HS.out]; exact hlt), HS.out]
      have hsl := slice_bk t b k hb hle
      have hq : (t.extract b k).size ≤ 281474976710656 := by rw [ByteArray.size_extract]; omega
      by_cases hlt : k < t.size
      · obtain ⟨c, hc⟩ : ∃ c : Int, c = (t[k].toNat : Int) := ⟨_, rfl⟩
        have hc2 : 0 ≤ c ∧ c ≤ 255 := by have := t[k].toNat_lt; omega
        have hi1 := index_at (P := Try.prog) Try.underlying9 t k hlt _ _ rfl hc
        have HC : Hid ((chAt t k : Int) = c) := ch_int hlt hc
        have HK : (c < 32 ∨ 126 < c) → Hid (poOut t = ([], false)) := fun hx => po_bad hlt (ok_not hlt hc hx)
        have HG : 32 ≤ c → c ≤ 126 → Hid (Oks t (k + 1)) := fun h1 h2 => oks_succ HO.out (fun _ => ok_int hlt hc h1 h2)
        clear hc
        by_cases ha : c < 32
        · have HP := HK (.inl ha)
          clear HK HG hword hpart hnone
          go_wp2
          go_ret2
          exact ⟨_, by rw [HP.out]; rfl, by rw [HP.out]; exact World.ownsRow_nil _ _ _ _, hnx⟩
        · by_cases hb2 : 126 < c
          · have HP := HK (.inr hb2)
            clear HK HG hword hpart hnone
            go_wp2
            go_ret2
            exact ⟨_, by rw [HP.out]; rfl, by rw [HP.out]; exact World.ownsRow_nil _ _ _ _, hnx⟩
          · have HG2 := HG (by omega) (by omega)
            clear HK HG
            by_cases hsp : c = 32
            · have hch : chAt t k = 32 := by have := HC.out; omega
              by_cases hbk : b < k
              · have HN := hpart hch hbk
                clear hword hpart hnone hch
                subst hsp
                go_wp2_with (first | (go_at_call 32; refine (Clone_any _ _ hq).mono ?_; rintro e wc ⟨rfl, hbc⟩; have hownc := hown.below hbc; have hszc := hbc.size) | (at_builtin; refine appendS rfl _ _ 34 rfl w.heap.size 9 Try.underlying34 Try.infoS hownc (t.extract b k) rfl rfl (by omega) (by omega) ?_; intro v1 w1 hown1 hb1 _))
                go_roundw
                case rel => exact ⟨k + 1, k + 1, _, by omega, Nat.le_refl _, by simp; omega, by go_num, by go_num, HN, hown1, HG2, hb1 _ (hnx.trans (hbc.mono hsz))⟩
                case measure => simp [intOf]; omega
              · have HN := hnone hch hbk
                clear hword hpart hnone hch
                subst hsp
                go_wp2
                go_roundw
                case rel => exact ⟨k + 1, k + 1, _, by omega, Nat.le_refl _, by omega, by go_num, by go_num, HN, hown, HG2, hnx⟩
                case measure => simp [intOf]; omega
            · have hch : chAt t k ≠ 32 := by have := HC.out; omega
              have hsp2 : (c != 32) = true := by simp; exact hsp
              have HN := hword hch
              clear hword hpart hnone hch hsp
              go_wp2
              go_roundw
              case rel => exact ⟨k + 1, b, _, by omega, by omega, by omega, by go_num, rfl, HN, hown, HG2, hnx⟩
              case measure => simp [intOf]; omega
      · have hch : chAt t k = 32 := chAt_end hlt
        have HG2 : Hid (Oks t (k + 1)) := oks_succ HO.out (fun hx => absurd hx hlt)
        by_cases hbk : b < k
        · have HN := hpart hch hbk
          clear hword hpart hnone hch
          go_wp2_with (first | (go_at_call 32; refine (Clone_any _ _ hq).mono ?_; rintro e wc ⟨rfl, hbc⟩; have hownc := hown.below hbc; have hszc := hbc.size) | (at_builtin; refine appendS rfl _ _ 34 rfl w.heap.size 9 Try.underlying34 Try.infoS hownc (t.extract b k) rfl rfl (by omega) (by omega) ?_; intro v1 w1 hown1 hb1 _))
          go_roundw
          case rel => exact ⟨k + 1, k + 1, _, by omega, Nat.le_refl _, by simp; omega, by go_num, by go_num, HN, hown1, HG2, hb1 _ (hnx.trans (hbc.mono hsz))⟩
          case measure => simp [intOf]; omega
        · have HN := hnone hch hbk
          clear hword hpart hnone hch
          go_wp2
          go_roundw
          case rel => exact ⟨k + 1, k + 1, _, by omega, Nat.le_refl _, by omega, by go_num, by go_num, HN, hown, HG2, hnx⟩
          case measure => simp [intOf]; omega
    · have hkt : k = t.size + 1 := by omega
      have HS2 : Hid ((poSt t (t.size + 1)).2 = ps) := by show _ = _; rw [← hkt, HS.out]
      rcases hown.form with ⟨rfl, rfl⟩ | ⟨g, cap, rfl, hg1, hg2⟩
      · have HP : Hid (poOut t = ([], true)) := by
          show _ = _
          rw [po_good h HO.out (by omega) (by rw [HS2.out]; simp), HS2.out]
        clear hkt
        go_wp2
        go_ret2
        exact ⟨_, by rw [HP.out]; rfl, by rw [HP.out]; exact hown, hnx⟩
      · by_cases hm : 10 < ps.length
        · have HP : Hid (poOut t = ([], false)) := po_many (by rw [HS2.out]; exact hm)
          clear hkt
          go_wp2
          go_ret2
          exact ⟨_, by rw [HP.out]; rfl, by rw [HP.out]; exact World.ownsRow_nil _ _ _ _, hnx⟩
        · have HP : Hid (poOut t = (ps, true)) := by
            show _ = _
            rw [po_good h HO.out (by omega) (by rw [HS2.out]; omega), HS2.out]
          clear hkt
          go_wp2
          go_ret2
          exact ⟨_, by rw [HP.out]; rfl, by rw [HP.out]; exact hown, hnx⟩

theorem specPartsOf_any (t : ByteArray) (w : World) :
    Calls Try.prog 25 #[.string t] w fun e w' => ∃ v, e = .returned (.tuple #[v, .bool (poOut t).2]) ∧ OwnsS w' w.heap.size 9 v (poOut t).1 ∧ Below w.heap.size w w' := by
  by_cases h : 600 < t.size
  · exact specPartsOf_long t w h
  · exact specPartsOf_short t w (by omega)
theorem implPartsOf_any (t : ByteArray) (w : World) :
    Calls Try.prog 26 #[.string t] w fun e w' => ∃ v, e = .returned (.tuple #[v, .bool (poOut t).2]) ∧ OwnsS w' w.heap.size 9 v (poOut t).1 ∧ Below w.heap.size w w' := by
  by_cases h : 600 < t.size
  · exact implPartsOf_long t w h
  · exact implPartsOf_short t w (by omega)
theorem poOut_len (t : ByteArray) : (poOut t).1.length ≤ 10 := by
  unfold poOut
  split
  · rename_i h
    exact h.2.2
  · simp

theorem own_apart {w w1 : World} {B : Nat} {e : TypeId} {a b : Value} {ss rs : List ByteArray} {W : World} (ha : OwnsS w B e a ss) (hb : OwnsS W w1.heap.size e b rs) (hw : w.heap.size ≤ w1.heap.size) : a.ownBlock = none ∨ a.ownBlock ≠ b.ownBlock := by
  rcases ha.form with ⟨rfl, _⟩ | ⟨g, cap, rfl, h1, h2⟩
  · exact .inl rfl
  · refine .inr ?_
    rcases hb.form with ⟨rfl, _⟩ | ⟨g', cap', rfl, h3, h4⟩
    · simp [Value.ownBlock]
    · simp [Value.ownBlock]
      omega

set_option maxHeartbeats 1600000 in
theorem lawPartsOf (t : ByteArray) (w : World) :
    Calls Try.prog 10 #[.string t] w fun e w' => e = .returned (.bool true) ∧ Below w.heap.size w w' := by
  by_cases hbig : 1048576 < t.size
  · go_enter Try.func10, Try.ntmps10
    go_wp2
    go_ret
    exact ⟨rfl, Below.refl _ _⟩
  · obtain ⟨ps, hps⟩ : ∃ ps, ps = (poOut t).1 := ⟨_, rfl⟩
    obtain ⟨b, hb⟩ : ∃ b, b = (poOut t).2 := ⟨_, rfl⟩
    have hl := poOut_len t
    have hspec := specPartsOf_any t
    have himpl := implPartsOf_any t
    rw [← hps] at hl hspec himpl
    rw [← hb] at hspec himpl
    have Hs : Hid (∀ w, Calls Try.prog 25 #[.string t] w fun e w' => ∃ v, e = .returned (.tuple #[v, .bool b]) ∧ OwnsS w' w.heap.size 9 v ps ∧ Below w.heap.size w w') := hspec
    have Hi : Hid (∀ w, Calls Try.prog 26 #[.string t] w fun e w' => ∃ v, e = .returned (.tuple #[v, .bool b]) ∧ OwnsS w' w.heap.size 9 v ps ∧ Below w.heap.size w w') := himpl
    clear hps hb hspec himpl
    go_enter Try.func10, Try.ntmps10
    go_wp2_with fail
    refine (Hs.out _).mono ?_
    rintro e w1 ⟨vs, rfl, hs1, hb1⟩
    go_wp2_with fail
    refine (Hi.out _).mono ?_
    rintro e w2 ⟨vi, rfl, hi2, hb2⟩
    have hs2 := hs1.below hb2
    have hap := own_apart hs1 hi2 (Nat.le_refl _)
    go_wp2_with fail
    refine (eqStringS_any _ _ _ _ _ _ ps _ (by omega) hi2 hs2).mono ?_
    rintro e w3 ⟨rfl, q3, rfl⟩
    go_wp2_with fail
    refine (markStringS_any _ _ _ 1 ps _ (by omega) (by omega) (by omega) (show OwnsS (w2.drewN q3) w1.heap.size 9 vi ps from hi2)).mono ?_
    rintro e w4 ⟨rfl, hi4, hg4⟩
    have hs4 := (show OwnsS (w2.drewN q3) w.heap.size 9 vs ps from hs2).kept hg4 hap
    go_wp2_with fail
    refine (heldStringS_any _ _ _ 1 ps.length _ (by omega) (by omega) (by omega) hi4).mono ?_
    rintro e w5 ⟨rfl, hb5⟩
    have hs5 := hs4.below hb5
    have hi5 := hi4.below hb5
    go_wp2_with fail
    refine (Hi.out _).mono ?_
    rintro e w6 ⟨vj, rfl, hj6, hb6⟩
    have hs6 := hs5.below hb6
    have hi6 := hi5.below hb6
    go_wp2_with fail
    refine (eqStringS_any _ _ _ _ _ _ ps _ (by omega) hj6 hs6).mono ?_
    rintro e w7 ⟨rfl, q7, rfl⟩
    go_wp2_with fail
    refine (heldStringS_any _ _ _ 1 ps.length _ (by omega) (by omega) (by omega) (show OwnsS (w6.drewN q7) w1.heap.size 9 vi (marks 1 ps.length) from hi6)).mono ?_
    rintro e w8 ⟨rfl, hb8⟩
    go_wp2
    go_ret
    have z1 := hb1.size
    have z2 := hb2.size
    have z4 : w2.heap.size ≤ w4.heap.size := hg4.size
    have z5 := hb5.size
    have z6 := hb6.size
    have b2 : Below w.heap.size w w2 := hb1.trans (hb2.mono z1)
    have b3 : Below w.heap.size w (w2.drewN q3) := b2.trans ⟨rfl, rfl, rfl, Nat.le_refl _, fun _ _ => rfl⟩
    have b4 : Below w.heap.size w w4 := b3.grown hg4 (Nat.le_trans z1 z2) (fun k hk => Nat.le_trans z1 (toNat_lt_of_own hi2 k hk))
    have b6 : Below w.heap.size w w6 := (b4.trans (hb5.mono (by omega))).trans (hb6.mono (by omega))
    have b7 : Below w.heap.size w (w6.drewN q7) := b6.trans ⟨rfl, rfl, rfl, Nat.le_refl _, fun _ _ => rfl⟩
    have z7 : w6.heap.size = (w6.drewN q7).heap.size := rfl
    exact ⟨rfl, b7.trans (hb8.mono (by omega))⟩

end Go.Proofs.Ytojlnpiaijnfhaa
