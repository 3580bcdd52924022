/-
  Under, in the program: what it answers at every program and every place.
-/
import Derived.Test.YtccelfjlffoiiaaUnderS
namespace Go.Proofs.Ytccelfjlffoiiaa
open Go.RowKit

/-- What is known going back from node m to node t. -/
def Back (ns : List Nd) (m t : Nat) (bs : List Bool) : Prop := bs.length = m + 1 ∧ ∀ j, bs.getD j false = true ↔ j = m ∨ ∃ i, t ≤ i ∧ Reach ns m i ∧ (j : Int) ∈ (ns.getD i nd0).kids
theorem back_at {ns : List Nd} {m t : Nat} {bs : List Bool} (H : Ahead ns m) (h : Back ns m (t + 1) bs) : bs.getD t false = true ↔ Reach ns m t := by
  rw [h.2]
  constructor
  · rintro (rfl | ⟨i, _, hi, hc⟩)
    · exact .self
    · exact .step hi hc
  · intro hr
    cases hr with
    | self => exact .inl rfl
    | step hi hc =>
      have := H _ (reach_le H (Nat.le_refl _) hi) _ hc
      exact .inr ⟨_, by omega, hi, hc⟩
theorem back_no {ns : List Nd} {m t : Nat} {bs : List Bool} (H : Ahead ns m) (h : Back ns m (t + 1) bs) (hb : bs.getD t false = false) : Back ns m t bs := by
  refine ⟨h.1, fun j => ?_⟩
  rw [h.2]
  constructor
  · rintro (e | ⟨i, h1, h2, h3⟩)
    · exact .inl e
    · exact .inr ⟨i, by omega, h2, h3⟩
  · rintro (e | ⟨i, h1, h2, h3⟩)
    · exact .inl e
    · rcases Nat.lt_or_ge t i with h4 | h4
      · exact .inr ⟨i, h4, h2, h3⟩
      · have : i = t := by omega
        subst this
        have := (back_at H h).mpr h2
        rw [hb] at this
        cases this
theorem back_yes {ns : List Nd} {m t : Nat} {bs b2 : List Bool} (H : Ahead ns m) (h : Back ns m (t + 1) bs) (hb : bs.getD t false = true) (hl : b2.length = m + 1) (h2 : ∀ j, b2.getD j false = true ↔ bs.getD j false = true ∨ (j : Int) ∈ (ns.getD t nd0).kids) : Back ns m t b2 := by
  refine ⟨hl, fun j => ?_⟩
  rw [h2, h.2]
  constructor
  · rintro ((e | ⟨i, h1, h2, h3⟩) | h3)
    · exact .inl e
    · exact .inr ⟨i, by omega, h2, h3⟩
    · exact .inr ⟨t, Nat.le_refl _, (back_at H h).mp hb, h3⟩
  · rintro (e | ⟨i, h1, h2, h3⟩)
    · exact .inl (.inl e)
    · rcases Nat.lt_or_ge t i with h4 | h4
      · exact .inl (.inr ⟨i, h4, h2, h3⟩)
      · have : i = t := by omega
        subst this
        exact .inr h3
theorem back_end {ns : List Nd} {m : Nat} {bs : List Bool} (h : Back ns m 0 bs) (j : Nat) : bs.getD j false = true ↔ Reach ns m j := by
  rw [h.2]
  constructor
  · rintro (rfl | ⟨i, _, hi, hc⟩)
    · exact .self
    · exact .step hi hc
  · intro hr
    cases hr with
    | self => exact .inl rfl
    | step hi hc => exact .inr ⟨_, Nat.zero_le _, hi, hc⟩

set_option maxRecDepth 100000 in
set_option maxHeartbeats 6400000 in
theorem implUnder_any (v0 v1 : Value) (ns : List Nd) (k : Int) (w : World) (hR : NdR.Row w w.heap.size v0 ns) (hl : szRow szNd ns ≤ 1048576) :
    Calls Try.prog 24 #[.agg #[v0, v1], .int .i64 k] w fun e w' => (∃ v xs, e = .returned v ∧ OwnsI w' w.heap.size v xs ∧ UnderAns ns k xs ∧ xs.length ≤ 1048576) ∧ Below w.heap.size w w' := by
  obtain ⟨na, nc, rfl⟩ := hR.len
  obtain ⟨N, HN⟩ : ∃ N, Hid (ns.length = N) := ⟨_, (rfl : ns.length = ns.length)⟩
  have HV : Hid (NdR.Row w w.heap.size (.slice na N nc) ns) := by rw [← HN.out]; exact hR
  have HL : Hid (szRow szNd ns ≤ 1048576) := hl
  have hNl : N ≤ 1048576 := by have := len_szRow szNd ns; have := HN.out; omega
  rw [HN.out]
  obtain ⟨d, hd⟩ : ∃ d, Hid (deepOf ns k = d) := ⟨_, (rfl : deepOf ns k = deepOf ns k)⟩
  have cD : Hid (∀ W, Below w.heap.size w W → Calls Try.prog 15 #[.slice na N nc, .int .i64 k] W fun e w' => e = .returned (.int .i64 d) ∧ Below W.heap.size W w') := fun W hW => by
    rw [← hd.out]
    exact implDeepOf_any _ ns _ W ((HV.out.keep hW).up hW.size) HL.out
  clear hR hl
  go_enter Try.func24, Try.ntmps24
  go_wp2_with fail
  go_at_call 15
  refine Calls.mono (cD.out _ (by go_grown)) ?_
  rintro e w1 ⟨rfl, hb1⟩
  have B1 : Hid (Box w (.cells #[.slice na N nc, v1] 37) w1) := (Box.first _ _).next hb1
  clear hb1 cD
  by_cases hd0 : d = 0
  · have HE : Hid (UnderAns ns k []) := .inl ⟨by rw [hd.out]; exact hd0, rfl⟩
    subst hd0
    go_wp2
    go_ret
    exact ⟨⟨_, [], rfl, ownsR_nil _ _ _ _ _, HE.out, by simp⟩, B1.out.below⟩
  have hne : deepOf ns k ≠ 0 := by rw [hd.out]; exact hd0
  have hkb := deep_in hne
  rw [HN.out] at hkb
  obtain ⟨m, rfl⟩ : ∃ m : Nat, k = (m : Int) := ⟨k.toNat, by omega⟩
  have hm : m < N := by omega
  have hd1 : (d == 0) = false := by simpa using hd0
  have HAh : Hid (Ahead ns m) := ahead_of (by rw [HN.out]; exact hm) hne
  have HNE : Hid (deepOf ns (m : Int) ≠ 0) := hne
  have hm0 : (0 : Int) ≤ (m : Int) := by omega
  have hm1 : (m : Int) < ((m + 1 : Nat) : Int) := by omega
  have hlt1 := B1.out.lt
  obtain ⟨i0, hi, hz0, hz1, hz2⟩ := info_parts Try.infoBool
  clear hne hkb hd0
  go_wp2_with (at_make; refine wpList_make_full _ rfl _ _ 80 rfl (w.heap.size + 1) 4 i0 _ 1 Try.underlying80 hi hz0 hz1 _ _ _ _ (m + 1) rfl rfl (by omega) (by omega) (by rw [hz2]; omega) (by unfold maxLen; omega) (by omega) ?_; intro w2 hown2 hg2; have B2 : Hid (Box w (.cells #[.slice na N nc, v1] 37) w2) := B1.out.next (below_grown hg2); have S2 : Hid (OwnsB w2 (w.heap.size + 1) (.slice (some ⟨w1.heap.size, 0, none⟩) (m + 1) (m + 1)) (List.replicate (m + 1) false)) := (by show OwnsB _ _ _ _; unfold OwnsB OwnsR; rw [List.length_replicate, ← zero_bools]; exact hown2); have c0 := OwnsB.cellAt S2.out (by simp) m (by simp) false (by simp [List.getD]); have f0 := OwnsB.freeAt S2.out (by simp) m)
  have S3 : Hid (OwnsB (w2.setCell ⟨w1.heap.size, m, none⟩ (.bool true)) (w.heap.size + 1) (.slice (some ⟨w1.heap.size, 0, none⟩) (m + 1) (m + 1)) ((List.replicate (m + 1) false).set m true) ∧ Back ns m (m + 1) ((List.replicate (m + 1) false).set m true)) := by
    refine ⟨OwnsB.set S2.out (by simp) m (by simp) true, by simp, fun j => ?_⟩
    rw [getB_set _ _ _ (by simp)]
    by_cases e : m = j
    · subst e
      simp
    · rw [if_neg e]
      have h0 : (List.replicate (m + 1) false).getD j false = false := by simp only [List.getD]; rw [List.getElem?_replicate]; split <;> rfl
      rw [h0]
      constructor
      · intro h
        cases h
      · rintro (h | ⟨i, h1, h2, _⟩)
        · exact absurd h.symm e
        · have := reach_le HAh.out (Nat.le_refl _) h2
          omega
  have B3 : Hid (Box w (.cells #[.slice na N nc, v1] 37) (w2.setCell ⟨w1.heap.size, m, none⟩ (.bool true))) := B2.out.setCell hlt1 _
  clear hi hz0 hz1 hz2 hown2 hg2 B1 B2 S2 c0 f0
  go_loopw [6] (fun i wr => ∃ t : Nat, t ≤ m + 1 ∧ i = .int .i64 ((t : Int) - 1) ∧ Hid (∃ bs : List Bool, OwnsB wr (w.heap.size + 1) (.slice (some ⟨w1.heap.size, 0, none⟩) (m + 1) (m + 1)) bs ∧ Back ns m t bs) ∧ Hid (Box w (.cells #[.slice na N nc, v1] 37) wr)) (fun i _ => (intOf i + 1).toNat)
  case atStart => exact ⟨m + 1, Nat.le_refl _, by go_num, ⟨_, S3.out.1, S3.out.2⟩, B3⟩
  case round =>
    obtain ⟨t, ht, rfl, HJ, BX⟩ := hrel
    clear S3 B3
    obtain ⟨bs, ho, hbk⟩ := HJ.out
    rcases Nat.eq_zero_or_pos t with rfl | hpos
    rotate_left
    · obtain ⟨u, rfl⟩ : ∃ u : Nat, t = u + 1 := ⟨t - 1, by omega⟩
      have hu0 : (0 : Int) ≤ (u : Int) := by omega
      have hu1 : (u : Int) < ((m + 1 : Nat) : Int) := by omega
      have huN : u < ns.length := by rw [HN.out]; omega
      have hui : (((u + 1 : Nat)) : Int) - 1 = (u : Int) := by omega
      rw [hui]
      obtain ⟨x, hx⟩ : ∃ x, Hid (bs.getD u false = x) := ⟨_, (rfl : bs.getD u false = bs.getD u false)⟩
      have c0 := OwnsB.cellAt ho hbk.1.symm u (by rw [hbk.1]; omega) x hx.out
      have HBk : Hid (OwnsB wr (w.heap.size + 1) (.slice (some ⟨w1.heap.size, 0, none⟩) (m + 1) (m + 1)) bs ∧ Back ns m (u + 1) bs) := ⟨ho, hbk⟩
      clear ho hbk hui HJ
      cases x
      · have HJ1 : Hid (∃ bs : List Bool, OwnsB wr (w.heap.size + 1) (.slice (some ⟨w1.heap.size, 0, none⟩) (m + 1) (m + 1)) bs ∧ Back ns m u bs) := ⟨bs, HBk.out.1, back_no HAh.out HBk.out.2 hx.out⟩
        clear HBk
        go_wp2
        go_roundw
        case rel => exact ⟨u, by omega, by go_num, HJ1, BX⟩
        case measure => first | (simp [intOf]; done) | (simp [intOf]; omega)
      · obtain ⟨b, off, ka, kc, rfl, hbb, _, _, _, c3, hK⟩ := RowNd.at HV.out u huN
        obtain ⟨ks, hks⟩ : ∃ ks, Hid (ns[u].kids = ks) := ⟨_, (rfl : ns[u].kids = ns[u].kids)⟩
        rw [hks.out] at c3 hK
        have HKS : Hid ((ns.getD u nd0).kids = ks) := by show _ = _; rw [← hks.out]; simp [List.getD, huN]
        obtain ⟨K, HK⟩ : ∃ K, Hid (ks.length = K) := ⟨_, (rfl : ks.length = ks.length)⟩
        rw [HK.out] at c3 hK
        have HI : Hid (RowI w w.heap.size (.slice ka K kc) ks) := hK
        have hKl : K ≤ 1048576 := by
          have h1 := Nat.le_trans (Nat.le_trans (le_szNd_kids ns[u]) (mem_szRow szNd (List.getElem_mem huN))) HL.out
          rw [hks.out, HK.out] at h1
          exact h1
        have d3 := (BX.out.below.cell (p := ⟨b, off + u * 4 + 3, none⟩) hbb).trans c3
        have q0 := BX.out.cell 0
        simp at q0
        clear c3 hK
        go_wp2_with fail
        go_loopw [39] (fun j wj => ∃ s : Nat, s ≤ K ∧ j = .int .i64 (s : Int) ∧ Hid (∃ b2 : List Bool, OwnsB wj (w.heap.size + 1) (.slice (some ⟨w1.heap.size, 0, none⟩) (m + 1) (m + 1)) b2 ∧ b2.length = m + 1 ∧ ∀ j, b2.getD j false = true ↔ bs.getD j false = true ∨ (j : Int) ∈ ks.take s) ∧ Hid (Box w (.cells #[.slice (some ⟨b, off, none⟩) N nc, v1] 37) wj)) (fun j _ => K - (intOf j).toNat)
        case atStart => exact ⟨0, Nat.zero_le _, rfl, ⟨bs, HBk.out.1, HBk.out.2.1, fun j => by simp⟩, BX⟩
        case round =>
          obtain ⟨s, hs, rfl, HJ2, BX2⟩ := hrel
          clear d3 q0 c0
          obtain ⟨b2, ho2, hl2, hi2⟩ := HJ2.out
          by_cases hsl : s < K
          · have hs0 : (0 : Int) ≤ (s : Int) := by omega
            have hs1 : (s : Int) < (K : Int) := by omega
            have hskl : s < ks.length := by have := HK.out; omega
            obtain ⟨kb, ko, rfl, hkb, e0⟩ := HI.out.at s hskl
            obtain ⟨c, hc⟩ : ∃ c, Hid (ks[s] = c) := ⟨_, (rfl : ks[s] = ks[s])⟩
            have f1 := (BX2.out.below.cell (p := ⟨kb, ko + s, none⟩) hkb).trans e0
            rw [hc.out] at f1
            have hcb : 0 ≤ c ∧ c < (u : Int) := HAh.out u (by omega) c (by rw [HKS.out, ← hc.out]; exact List.getElem_mem hskl)
            obtain ⟨cn, rfl⟩ : ∃ cn : Nat, c = (cn : Int) := ⟨c.toNat, by omega⟩
            have hc0 : (0 : Int) ≤ (cn : Int) := by omega
            have hc1 : (cn : Int) < ((m + 1 : Nat) : Int) := by omega
            have hcm : cn < m + 1 := by omega
            obtain ⟨y, hy⟩ : ∃ y, Hid (b2.getD cn false = y) := ⟨_, (rfl : b2.getD cn false = b2.getD cn false)⟩
            have g1 := OwnsB.cellAt ho2 hl2.symm cn (by rw [hl2]; exact hcm) y hy.out
            have g2 := OwnsB.freeAt ho2 hl2.symm cn
            have S4 : Hid (∃ b3 : List Bool, OwnsB (wr.setCell ⟨w1.heap.size, cn, none⟩ (.bool true)) (w.heap.size + 1) (.slice (some ⟨w1.heap.size, 0, none⟩) (m + 1) (m + 1)) b3 ∧ b3.length = m + 1 ∧ ∀ j, b3.getD j false = true ↔ bs.getD j false = true ∨ (j : Int) ∈ ks.take (s + 1)) := by
              refine ⟨b2.set cn true, OwnsB.set ho2 hl2.symm cn (by rw [hl2]; exact hcm) true, by rw [List.length_set]; exact hl2, fun j => ?_⟩
              rw [getB_set _ _ _ (by rw [hl2]; exact hcm), List.take_succ_eq_append_getElem hskl, hc.out]
              by_cases e : cn = j
              · subst e
                simp
              · rw [if_neg e, hi2]
                have : ¬ (j : Int) = (cn : Int) := by omega
                simp [this]
            have BX4 : Hid (Box w (.cells #[.slice (some ⟨b, off, none⟩) N nc, v1] 37) (wr.setCell ⟨w1.heap.size, cn, none⟩ (.bool true))) := BX2.out.setCell hlt1 _
            clear e0 hcb ho2 hl2 hi2 HJ2 BX2
            go_wp2
            go_roundw
            case rel => exact ⟨s + 1, by omega, by go_num, S4, BX4⟩
            case measure => simp [intOf]; omega
          · have HsK : Hid (s = K) := (by omega : s = K)
            have HJ1 : Hid (∃ bs : List Bool, OwnsB wr (w.heap.size + 1) (.slice (some ⟨w1.heap.size, 0, none⟩) (m + 1) (m + 1)) bs ∧ Back ns m u bs) := ⟨b2, ho2, back_yes HAh.out HBk.out.2 hx.out hl2 (fun j => by rw [hi2, HsK.out, ← HK.out, List.take_length, HKS.out])⟩
            clear ho2 hl2 hi2 HJ2 HBk
            go_wp2
            go_roundw
            case rel => exact ⟨u, by omega, by go_num, HJ1, BX2⟩
            case measure => first | (simp [intOf]; done) | (simp [intOf]; omega)
    · have HBs : Hid (∀ j, bs.getD j false = true ↔ Reach ns m j) := fun j => back_end hbk j
      have HO3 : Hid (OwnsB wr (w.heap.size + 1) (.slice (some ⟨w1.heap.size, 0, none⟩) (m + 1) (m + 1)) bs ∧ bs.length = m + 1 ∧ Below w.heap.size w wr) := ⟨ho, hbk.1, BX.out.below⟩
      clear ho hbk HJ BX
      rw [show (((0 : Nat)) : Int) - 1 = -1 from rfl]
      go_wp2_with fail
      go_loopw [9, 49] (fun o i wj => ∃ (t : Nat), t ≤ m + 1 ∧ i = .int .i64 (t : Int) ∧ Hid (OwnsI wj w.heap.size o (picks bs t) ∧ Below w.heap.size w wj ∧ OwnsB wj (w.heap.size + 1) (.slice (some ⟨w1.heap.size, 0, none⟩) (m + 1) (m + 1)) bs)) (fun _ i _ => m + 1 - (intOf i).toNat)
      case atStart => exact ⟨0, Nat.zero_le _, rfl, ownsR_nil _ _ _ _ _, HO3.out.2.2, HO3.out.1⟩
      case round =>
        obtain ⟨t, ht, rfl, HJ⟩ := hrel
        have hlen : (picks bs t).length ≤ 1048576 := Nat.le_trans (picks_len bs t) (by omega)
        by_cases hlt : t < m + 1
        · have ht0 : (0 : Int) ≤ (t : Int) := by omega
          have ht1 : (t : Int) < ((m + 1 : Nat) : Int) := by omega
          obtain ⟨x, hx⟩ : ∃ x, Hid (bs.getD t false = x) := ⟨_, (rfl : bs.getD t false = bs.getD t false)⟩
          have c0 := OwnsB.cellAt HJ.out.2.2 HO3.out.2.1.symm t (by rw [HO3.out.2.1]; exact hlt) x hx.out
          obtain ⟨hown, hBw, hbs⟩ := HJ.out
          have HBS : Hid (OwnsB wr (w.heap.size + 1) (.slice (some ⟨w1.heap.size, 0, none⟩) (m + 1) (m + 1)) bs ∧ (Value.slice (some ⟨w1.heap.size, 0, none⟩) (m + 1) (m + 1)).ownBlock ≠ u9.ownBlock) := ⟨hbs, (types_apart hbs hown (by decide)).elim (fun e => by cases e) id⟩
          have hsz := hBw.size
          cases x
          · have HP : Hid (picks bs (t + 1) = picks bs t) := picks_no hx.out
            clear hown hBw hbs
            go_wp2
            go_roundw
            case rel => exact ⟨t + 1, by omega, by go_num, by rw [HP.out]; exact HJ⟩
            case measure => simp [intOf]; omega
          · have HP : Hid (picks bs (t + 1) = picks bs t ++ [(t : Int)]) := picks_yes hx.out
            clear hbs HJ
            go_wp2_with (at_builtin; go_must (refine appendR inC_len rfl _ _ 43 rfl w.heap.size 3 _ 8 Try.underlying43 Try.infoInt rfl (by decide) hown (t : Int) (inC_ones _) rfl (by first | rfl | (simp [Act.eval]; done)) (by omega) (by omega) hsz ?_); intro v4 w4 hown4 hb4 hs4 hg4)
            have HN4 : Hid (OwnsI w4 w.heap.size v4 (picks bs (t + 1)) ∧ Below w.heap.size w w4 ∧ OwnsB w4 (w.heap.size + 1) (.slice (some ⟨w1.heap.size, 0, none⟩) (m + 1) (m + 1)) bs) := by
              have hk := OwnsR.kept HBS.out.1 hg4 (.inr HBS.out.2)
              exact ⟨by rw [HP.out]; exact hown4, hb4 w hBw, hk⟩
            clear hown4 hb4 hs4 hg4 hown hBw HBS
            go_wp2
            go_roundw
            case rel => exact ⟨t + 1, by omega, by go_num, HN4⟩
            case measure => simp [intOf]; omega
        · have htm : Hid (t = m + 1) := (by omega : t = m + 1)
          have HE : Hid (UnderAns ns (m : Int) (picks bs t)) := by
            refine .inr ⟨HNE.out, ?_⟩
            rw [Int.toNat_natCast]
            exact picks_under HBs.out (fun j hj => by have := reach_le HAh.out (Nat.le_refl _) hj; have := htm.out; omega)
          go_wp2
          go_ret
          exact ⟨⟨_, picks bs t, rfl, HJ.out.1, HE.out, hlen⟩, HJ.out.2.1⟩

end Go.Proofs.Ytccelfjlffoiiaa
