/-
  Chapter 4, in the program: the kinds of a node's kids.
-/
import Derived.Test.YtljphnjmeckpbaaGreatImTree2
import Derived.Test.YtljphnjmeckpbaaGreatRowInt
import Derived.Test.YtljphnjmeckpbaaGreatPlain16
namespace Go.Proofs.YtljphnjmeckpbaaGreat
open Go.RowKit

theorem inC_ones (x : Int) : ∀ u ∈ inC x, u.oneCell' = true := by
  intro u hu
  simp [inC] at hu
  subst hu
  rfl
theorem kindsOf_take (ns : List Nd) (ks : List Int) (t : Nat) (h : t < ks.length) (c : Int) (hc : ks[t] = c) (d : Int) (hd : (ns.getD c.toNat nd0).kind = d) : kindsOf ns (ks.take t) ++ [d] = kindsOf ns (ks.take (t + 1)) := by
  subst hc hd
  rw [List.take_succ_eq_append_getElem h]
  unfold kindsOf
  rw [List.map_append]
  rfl
theorem isIn_off {x a b : Int} (h : x < a ∨ b < x) : isIn x a b = false := by
  simp only [isIn, Bool.and_eq_false_iff, decide_eq_false_iff_not]
  omega
theorem rowI_take {w : World} {B : Nat} {b off n cap t : Nat} {xs : List Int} (h : RowI w B (.slice (some ⟨b, off, none⟩) n cap) xs) (ht : t ≤ xs.length) (c' : Nat) (hc : t ≤ c') : RowI w B (.slice (some ⟨b, off, none⟩) t c') (xs.take t) := by
  refine ⟨some ⟨b, off, none⟩, c', by rw [List.length_take, Nat.min_eq_left ht], by rw [List.length_take, Nat.min_eq_left ht]; exact hc, ?_⟩
  by_cases h0 : xs.take t = []
  · exact .inl h0
  · have hpos : 0 < xs.length := by
      rcases Nat.eq_zero_or_pos xs.length with e | e
      · exact absurd (by rw [List.eq_nil_of_length_eq_zero e]; simp) h0
      · exact e
    refine .inr ⟨b, off, rfl, ?_, fun i hi j hj => ?_⟩
    · obtain ⟨b', off', e, hb, _⟩ := RowR.at h 0 hpos
      cases e
      exact hb
    · have hi' : i < xs.length := by simp at hi; omega
      obtain ⟨b', off', e, hb, hc⟩ := RowR.at h i hi'
      cases e
      rw [List.getElem_take]
      exact hc j hj

/-- What kindsAhead answers. -/
structure AheadAns (ns : List Nd) (m : Nat) (kids : List Int) (w : World) (e : Ending) (w' : World) : Prop where
  ex : ∃ v r, e = .returned (.tuple #[v, .bool r]) ∧ r = (decide (kids.length ≤ 12) && aheadTo (m : Int) kids kids.length) ∧ (r = true → OwnsI w' w.heap.size v (kindsOf ns kids))

set_option maxRecDepth 100000 in
set_option maxHeartbeats 3200000 in
theorem kindsAhead_any (b off N cap m : Nat) (ns : List Nd) (q : Nd) (w : World) (_hl : N ≤ 1048576) (hR : NdR.Row w w.heap.size (.slice (some ⟨b, off, none⟩) N cap) ns) (hN : Hid (ns.length = N)) (hm : m < N) (hq : Hid (ns[m]'(by rw [hN.out]; exact hm) = q)) (hk : q.kids.length ≤ 1048576) :
    Calls Tryz.prog 115 #[.slice (some ⟨b, off, none⟩) N cap, .int .i64 (m : Int)] w fun e w' => AheadAns ns m q.kids w e w' ∧ Below w.heap.size w w' := by
  have hml : m < ns.length := by rw [hN.out]; exact hm
  obtain ⟨b', off', ka, kc, e, hb, c0, c1, c2, c3, hK⟩ := RowNd.at hR m hml
  cases e
  rw [hq.out] at c3 hK
  have HR : Hid (NdR.Row w w.heap.size (.slice (some ⟨b, off, none⟩) N cap) ns) := hR
  clear c0 c1 c2 hR
  obtain ⟨kd, nm, tx, ks⟩ := q
  simp only at c3 hK hk ⊢
  have hcap := hK.cap.2
  obtain ⟨K, HK⟩ : ∃ K, Hid (ks.length = K) := ⟨_, (rfl : ks.length = ks.length)⟩
  rw [HK.out] at c3 hK hk hcap
  have HI : Hid (RowI w w.heap.size (.slice ka K kc) ks) := hK
  clear hK
  have hm0 : (0 : Int) ≤ (m : Int) := by omega
  have hm1 : (m : Int) < (N : Int) := by omega
  by_cases h12 : (12 : Int) < (K : Int)
  · have HE : Hid (decide (K ≤ 12) = false) := by show _ = _; simp; omega
    go_enter Tryz.func115, Tryz.ntmps115
    go_wp2
    go_ret2
    exact ⟨⟨_, _, rfl, by rw [HK.out, HE.out]; rfl, fun h => by cases h⟩, Below.refl _ _⟩
  have HE : Hid (decide (K ≤ 12) = true) := by show _ = _; simp; omega
  have hk12 : K ≤ 12 := by omega
  go_enter Tryz.func115, Tryz.ntmps115
  go_wp2
  go_loopw [7, 20] (fun kv i wr => ∃ t : Nat, t ≤ K ∧ i = .int .i64 (t : Int) ∧ Hid (aheadTo (m : Int) ks t = true) ∧ Hid (OwnsI wr w.heap.size kv (kindsOf ns (ks.take t))) ∧ Below w.heap.size w wr) (fun _ i _ => K - (intOf i).toNat)
  case atStart => exact ⟨0, Nat.zero_le _, rfl, rfl, ownsR_nil _ _ _ _ _, Below.refl _ _⟩
  case round =>
    obtain ⟨t, ht, rfl, HT, HO, hbw⟩ := hrel
    by_cases hlt : t < K
    · have ht1 : (t : Int) < (K : Int) := by omega
      have ht0 : (0 : Int) ≤ (t : Int) := by omega
      have htl : t < ks.length := by have := HK.out; omega
      obtain ⟨kb, ko, rfl, hkb, d0⟩ := HI.out.at t htl
      obtain ⟨c, hc⟩ : ∃ c, Hid (ks[t] = c) := ⟨_, (rfl : ks[t] = ks[t])⟩
      have f0 := (hbw.cell (p := ⟨kb, ko + t, none⟩) (by show kb < _; omega)).trans d0
      rw [hc.out] at f0
      clear d0
      have hgd : Hid (ks.getD t 0 = c) := by show _ = _; rw [← hc.out]; simp [List.getD, htl]
      have hcap1 : t ≤ kc := by omega
      have hcap2 : (t : Int) ≤ (kc : Int) := by omega
      by_cases hc0 : c < 0
      · have HF : Hid (aheadTo (m : Int) ks K = false) := aheadTo_false hlt (by rw [aheadOk, hgd.out, isIn_off (by omega), Bool.false_and])
        go_wp2
        go_ret2
        exact ⟨⟨_, _, rfl, by rw [HK.out, HF.out, Bool.and_false], fun h => by cases h⟩, hbw⟩
      by_cases hc1 : (m : Int) ≤ c
      · have HF : Hid (aheadTo (m : Int) ks K = false) := aheadTo_false hlt (by rw [aheadOk, hgd.out, isIn_off (by omega), Bool.false_and])
        go_wp2
        go_ret2
        exact ⟨⟨_, _, rfl, by rw [HK.out, HF.out, Bool.and_false], fun h => by cases h⟩, hbw⟩
      have HRt : Hid (∀ W, Below w.heap.size w W → RowI W w.heap.size (.slice (some ⟨kb, ko, none⟩) t kc) (ks.take t)) := fun W hW => (rowI_take HI.out (by omega) kc hcap1).keep hW
      obtain ⟨r, hr⟩ : ∃ r, Hid ((ks.take t).contains c = r) := ⟨_, (rfl : (ks.take t).contains c = (ks.take t).contains c)⟩
      have cC : Hid (∀ W, Below w.heap.size w W → Calls Tryz.prog 128 #[.slice (some ⟨kb, ko, none⟩) t kc, .int .i64 c] W fun e w' => e = .returned (.bool r) ∧ Below W.heap.size W w') := fun W hW => by
        rw [← hr.out]
        exact contains_any w.heap.size _ _ c W hW.size (HRt.out W hW) (by simp; omega)
      cases r
      · have HT1 : Hid (aheadTo (m : Int) ks (t + 1) = true) := by
          show _ = _
          rw [aheadTo, HT.out, aheadOk, hgd.out, hr.out, isIn]
          simp
          omega
        obtain ⟨cn, hcn⟩ : ∃ n : Nat, c = (n : Int) := ⟨c.toNat, by omega⟩
        have hcl : cn < ns.length := by rw [hN.out]; omega
        have hcN : cn < N := by omega
        obtain ⟨b2, off2, ka2, kc2, e2, hb2, g0, _, _, _, _⟩ := RowNd.at HR.out cn hcl
        cases e2
        obtain ⟨d, hd⟩ : ∃ d, Hid (ns[cn].kind = d) := ⟨_, (rfl : ns[cn].kind = ns[cn].kind)⟩
        rw [hd.out] at g0
        have HD : Hid ((ns.getD c.toNat nd0).kind = d) := by show _ = _; rw [← hd.out, hcn]; simp [List.getD, hcl]
        subst hcn
        have hcn0 : (0 : Int) ≤ (cn : Int) := by omega
        have hcn1 : (cn : Int) < (N : Int) := by omega
        go_wp2_with fail
        go_at_call 128
        refine Calls.mono (cC.out _ hbw) ?_
        rintro e w1 ⟨rfl, hb1⟩
        have g1 := ((hbw.trans (hb1.mono hbw.size)).cell (p := ⟨b, off + cn * 4, none⟩) hb2).trans g0
        have hown : OwnsI w1 w.heap.size u7 (kindsOf ns (ks.take t)) := OwnsR.below HO.out hb1
        have hlen : (kindsOf ns (ks.take t)).length ≤ 12 := by rw [kindsOf_len]; simp; omega
        have hBw1 : Below w.heap.size w w1 := hbw.trans (hb1.mono hbw.size)
        have hsz := hBw1.size
        clear g0 cC hb1
        go_wp2_with (at_builtin; go_must (refine appendR inC_len rfl _ _ 35 rfl w.heap.size 3 _ 8 Tryz.underlying35 Tryz.infoInt rfl (by decide) hown d (inC_ones _) rfl (by first | rfl | (simp [Act.eval]; done)) (by omega) (by omega) hsz ?_); intro v4 w4 hown4 hb4 hs4 hg4)
        have HO4 : Hid (OwnsI w4 w.heap.size v4 (kindsOf ns (ks.take (t + 1)))) := by
          have := kindsOf_take ns ks t htl _ hc.out d HD.out
          rw [← this]
          exact hown4
        have HB4 : Hid (Below w.heap.size w w4) := hb4 w hBw1
        clear hown4 hb4 hs4 hg4 hown hBw1
        go_wp2
        go_roundw
        case rel => exact ⟨t + 1, by omega, by go_num, HT1, HO4, HB4.out⟩
        case measure => simp [intOf]; omega
      · have HF : Hid (aheadTo (m : Int) ks K = false) := aheadTo_false hlt (by rw [aheadOk, hgd.out, hr.out]; simp)
        go_wp2_with fail
        go_at_call 128
        refine Calls.mono (cC.out _ hbw) ?_
        rintro e w1 ⟨rfl, hb1⟩
        have HB1 : Hid (Below w.heap.size w w1) := hbw.trans (hb1.mono hbw.size)
        clear cC hb1
        go_wp2
        go_ret2
        exact ⟨⟨_, _, rfl, by rw [HK.out, HF.out, Bool.and_false], fun h => by cases h⟩, HB1.out⟩
    · have htK : Hid (t = K) := (by omega : t = K)
      have HF : Hid (aheadTo (m : Int) ks K = true) := by show _ = _; rw [← htK.out]; exact HT.out
      have HO2 : Hid (OwnsI wr w.heap.size u7 (kindsOf ns ks)) := by
        have := HO.out
        rw [htK.out, ← HK.out, List.take_length] at this
        exact this
      go_wp2
      go_ret2
      exact ⟨⟨_, _, rfl, by rw [HK.out, HF.out, HE.out]; rfl, fun _ => HO2.out⟩, hbw⟩

end Go.Proofs.YtljphnjmeckpbaaGreat
