/-
  NodeOk, in the program: what it answers at every row of nodes and every place. Written by mknode.py.
-/
import Derived.Test.YtbanmldmdoedkaaGreatDoorIm
namespace Go.Proofs.YtbanmldmdoedkaaGreatDoor
open Go.RowKit

theorem parts_number (kd nm : Int) (tx : ByteArray) (h : kd = 1) : saysNum nm tx = headRest kd nm tx := by
  have hn := @nameOk_some tx
  unfold saysNum headRest
  have e1 : isNamed kd = false := by subst h; rfl
  rw [e1]
  subst h
  all_goals
    by_cases h0 : nm = 0
    · subst h0
      by_cases h2 : tx.size = 0
      · cases hk : nameOk tx <;> simp [isIn, h2]
        all_goals (try (have := hn hk; omega))
      · cases hk : nameOk tx <;> simp [isIn, h2]
        all_goals (try omega)
    · cases hk : nameOk tx <;> by_cases h2 : tx.size = 0 <;> simp [isIn, h0, h2]
      all_goals (try (have := hn hk; omega))
      all_goals (try omega)
theorem took_number (kd : Int) (ks : List Int) (h : kd = 1) : tkLen0 ks = (isIn (ks.length : Int) (kidsLow kd) (kidsHigh kd) && fitsTo kd ks ks.length) := by
  subst h
  all_goals
    unfold tkLen0
    cases ks with
    | nil => rfl
    | cons x xs =>
      have : isIn (((x :: xs).length : Nat) : Int) 0 0 = false := by first | (simp [isIn]; done) | (simp [isIn]; omega)
      show _ = (isIn (((x :: xs).length : Nat) : Int) 0 0 && _)
      rw [this]
      simp

set_option maxRecDepth 100000 in
set_option maxHeartbeats 3200000 in
theorem implNodeOk_number (b off N cap m : Nat) (ns : List Nd) (q : Nd) (w : World) (hl : N ≤ 1048576) (hR : NdR.Row w w.heap.size (.slice (some ⟨b, off, none⟩) N cap) ns) (hN : Hid (ns.length = N)) (hm : m < N) (hq : Hid (ns[m]'(by rw [hN.out]; exact hm) = q)) (hz : szNd q ≤ 1048576) (hcl : q.kind = 1) :
    Calls Tryz.prog 94 #[.slice (some ⟨b, off, none⟩) N cap, .int .i64 (m : Int)] w fun e w' => e = .returned (.bool (headOk q && kidsTo ns (m : Int) q q.kids.length)) ∧ Below w.heap.size w w' := by
  have hml : m < ns.length := by rw [hN.out]; exact hm
  have hkl : q.kids.length ≤ 1048576 := Nat.le_trans (le_szNd_kids q) hz
  have htl : q.name.size ≤ 1048576 := Nat.le_trans (le_szNd_name q) hz
  obtain ⟨b', off', ka, kc, e, hb, c0, c1, c2, c3, hK0⟩ := RowNd.at hR m hml
  cases e
  rw [hq.out] at c0 c1 c2 c3
  have cA : Hid (∀ W, Below w.heap.size w W → Calls Tryz.prog 145 #[.slice (some ⟨b, off, none⟩) N cap, .int .i64 (m : Int)] W fun e w' => AheadAns ns m q.kids W e w' ∧ Below W.heap.size W w') := fun W hW =>
    kindsAhead_any b off N cap m ns q W hl ((RowTy.Row.keep hR hW).up hW.size) hN hm hq hkl
  have HRes : Hid ((headOk q && kidsTo ns (m : Int) q q.kids.length) = (saysNum q.num q.name && ((decide (q.kids.length ≤ 12) && aheadTo (m : Int) q.kids q.kids.length) && tkLen0 (kindsOf ns q.kids)))) :=
    nodeParts (by rw [hcl]; rfl) (parts_number _ _ _ hcl) (by rw [took_number q.kind _ hcl, kindsOf_len])
  obtain ⟨r, hr⟩ : ∃ r, Hid ((decide (q.kids.length ≤ 12) && aheadTo (m : Int) q.kids q.kids.length) = r) := ⟨_, (rfl : (decide (q.kids.length ≤ 12) && aheadTo (m : Int) q.kids q.kids.length) = _)⟩
  have HL : Hid (r = true → (kindsOf ns q.kids).length ≤ 12) := fun h => by
    rw [kindsOf_len]
    have := hr.out
    rw [h] at this
    simp at this
    exact this.1
  rw [hr.out] at HRes
  obtain ⟨ks, hks⟩ : ∃ ks, Hid (kindsOf ns q.kids = ks) := ⟨_, (rfl : kindsOf ns q.kids = kindsOf ns q.kids)⟩
  rw [hks.out] at HRes HL
  obtain ⟨res, hres⟩ : ∃ res, Hid ((headOk q && kidsTo ns (m : Int) q q.kids.length) = res) := ⟨_, (rfl : (headOk q && kidsTo ns (m : Int) q q.kids.length) = _)⟩
  rw [hres.out] at HRes ⊢
  obtain ⟨kd, nm, tx, kids⟩ := q
  simp only at c0 c1 c2 c3 HRes hcl htl hr hks
  obtain ⟨K, HK⟩ : ∃ K, Hid (kids.length = K) := ⟨_, (rfl : kids.length = kids.length)⟩
  rw [HK.out] at c3
  have cP : Hid (∀ W, Calls Tryz.prog 143 #[.agg #[.int .i64 kd, .int .i64 nm, .string tx, .slice ka K kc]] W fun e w' => e = .returned (.iface 185 (.agg #[.int .i64 kd, .int .i64 nm, .string tx, .slice ka K kc])) ∧ Below W.heap.size W w') := fun W => partOf_number kd nm tx _ W hcl
  obtain ⟨s, hs⟩ : ∃ s, Hid (saysNum nm tx = s) := ⟨_, (rfl : saysNum nm tx = saysNum nm tx)⟩
  have cS : Hid (∀ W, Calls Tryz.prog 144 #[.iface 185 (.agg #[.int .i64 kd, .int .i64 nm, .string tx, .slice ka K kc]), .agg #[.int .i64 kd, .int .i64 nm, .string tx, .slice ka K kc]] W fun e w' => e = .returned (.bool s) ∧ Below W.heap.size W w') := fun W => by
    rw [← hs.out]
    exact says_number kd nm tx _ W
  obtain ⟨tk, htk⟩ : ∃ tk, Hid (tkLen0 ks = tk) := ⟨_, (rfl : tkLen0 ks = tkLen0 ks)⟩
  have cT : Hid (∀ W v, r = true → OwnsI W w.heap.size v ks → Calls Tryz.prog 233 #[.agg #[.int .i64 kd, .int .i64 nm, .string tx, .slice ka K kc], v] W fun e w' => e = .returned (.bool tk) ∧ Below W.heap.size W w') := fun W v h ho => by
    rw [← htk.out]
    exact takes_number W.heap.size kd nm tx _ v ks W (Nat.le_refl _) ho.row (HL.out h)
  rw [hs.out, htk.out] at HRes
  have cB : Hid (∀ W, Calls Tryz.prog 93 #[.slice (some ⟨b, off, none⟩) N cap, .int .i64 (m : Int)] W fun e w' => e = .returned (.bool true) ∧ w' = W) := fun W => by
    have := isPlace_any (some ⟨b, off, none⟩) N cap (m : Int) W
    rw [show isIn (m : Int) 0 ((N : Int) - 1) = true by simp [isIn]; omega] at this
    exact this
  have hm0 : (0 : Int) ≤ (m : Int) := by omega
  have hm1 : (m : Int) < (N : Int) := by omega
  clear hK0 hR hkl htl hz hcl
  go_enter Tryz.func94, Tryz.ntmps94
  go_wp2_with (go_at_call 93; refine Calls.mono (cB.out _) ?_; rintro e w1 ⟨rfl, h⟩; obtain rfl := h.symm)
  go_at_call 143
  refine Calls.mono (cP.out _) ?_
  rintro e w1 ⟨rfl, hb1⟩
  have d0 := (hb1.cell (p := ⟨b, off + m * 4, none⟩) hb).trans c0
  have d1 := (hb1.cell (p := ⟨b, off + m * 4 + 1, none⟩) hb).trans c1
  have d2 := (hb1.cell (p := ⟨b, off + m * 4 + 2, none⟩) hb).trans c2
  have d3 := (hb1.cell (p := ⟨b, off + m * 4 + 3, none⟩) hb).trans c3
  have HB1 : Hid (Below w.heap.size w w1) := hb1
  clear hb1 c0 c1 c2 c3 cP cB
  go_wp2_with fail
  go_at_call 144
  refine Calls.mono (cS.out _) ?_
  rintro e w2 ⟨rfl, hb2⟩
  have HB2 : Hid (Below w.heap.size w w2) := HB1.out.trans (hb2.mono HB1.out.size)
  clear hb2 d0 d1 d2 d3 cS HB1
  cases s
  · go_wp2
    go_ret
    exact ⟨by rw [HRes.out]; rfl, HB2.out⟩
  go_wp2_with fail
  go_at_call 145
  refine Calls.mono (cA.out _ HB2.out) ?_
  rintro e w3 ⟨hh, hb3⟩
  obtain ⟨v, r', rfl, hr', ho⟩ := hh.ex
  rw [hr.out] at hr'
  rw [hks.out] at ho
  obtain rfl := hr'
  have HB3 : Hid (Below w.heap.size w w3) := HB2.out.trans (hb3.mono HB2.out.size)
  have HO : Hid (r' = true → OwnsI w3 w.heap.size v ks) := fun h => OwnsR.base (ho h) (fun g hg => by have := (OwnsR.lt (ho h) g hg).1; have := HB2.out.size; omega)
  clear hb3 ho cA
  cases r'
  · go_wp2
    go_ret
    exact ⟨by rw [HRes.out]; rfl, HB3.out⟩
  go_wp2_with fail
  go_at_call 233
  refine Calls.mono (cT.out _ _ (by trivial) (HO.out (by trivial))) ?_
  rintro e w4 ⟨rfl, hb4⟩
  have HB4 : Hid (Below w.heap.size w w4) := HB3.out.trans (hb4.mono HB3.out.size)
  clear hb4
  go_wp2
  go_ret
  exact ⟨by rw [HRes.out]; rfl, HB4.out⟩

theorem parts_use (kd nm : Int) (tx : ByteArray) (h : kd = 2 ∨ kd = 3 ∨ kd = 4 ∨ kd = 5 ∨ kd = 6) : saysName nm tx = headRest kd nm tx := by
  have hn := @nameOk_some tx
  unfold saysName headRest
  have e1 : isNamed kd = true := by rcases h with rfl | rfl | rfl | rfl | rfl <;> rfl
  rw [e1]
  rcases h with rfl | rfl | rfl | rfl | rfl
  all_goals
    by_cases h0 : nm = 0
    · subst h0
      by_cases h2 : tx.size = 0
      · cases hk : nameOk tx <;> simp [isIn, h2]
        all_goals (try (have := hn hk; omega))
      · cases hk : nameOk tx <;> simp [isIn, h2]
        all_goals (try omega)
    · cases hk : nameOk tx <;> by_cases h2 : tx.size = 0 <;> simp [isIn, h0, h2]
      all_goals (try (have := hn hk; omega))
      all_goals (try omega)
theorem took_use (kd : Int) (ks : List Int) (h : kd = 2 ∨ kd = 3 ∨ kd = 4 ∨ kd = 5 ∨ kd = 6) : tkLen0 ks = (isIn (ks.length : Int) (kidsLow kd) (kidsHigh kd) && fitsTo kd ks ks.length) := by
  rcases h with rfl | rfl | rfl | rfl | rfl
  all_goals
    unfold tkLen0
    cases ks with
    | nil => rfl
    | cons x xs =>
      have : isIn (((x :: xs).length : Nat) : Int) 0 0 = false := by first | (simp [isIn]; done) | (simp [isIn]; omega)
      show _ = (isIn (((x :: xs).length : Nat) : Int) 0 0 && _)
      rw [this]
      simp

set_option maxRecDepth 100000 in
set_option maxHeartbeats 3200000 in
theorem implNodeOk_use (b off N cap m : Nat) (ns : List Nd) (q : Nd) (w : World) (hl : N ≤ 1048576) (hR : NdR.Row w w.heap.size (.slice (some ⟨b, off, none⟩) N cap) ns) (hN : Hid (ns.length = N)) (hm : m < N) (hq : Hid (ns[m]'(by rw [hN.out]; exact hm) = q)) (hz : szNd q ≤ 1048576) (hcl : q.kind = 2 ∨ q.kind = 3 ∨ q.kind = 4 ∨ q.kind = 5 ∨ q.kind = 6) :
    Calls Tryz.prog 94 #[.slice (some ⟨b, off, none⟩) N cap, .int .i64 (m : Int)] w fun e w' => e = .returned (.bool (headOk q && kidsTo ns (m : Int) q q.kids.length)) ∧ Below w.heap.size w w' := by
  have hml : m < ns.length := by rw [hN.out]; exact hm
  have hkl : q.kids.length ≤ 1048576 := Nat.le_trans (le_szNd_kids q) hz
  have htl : q.name.size ≤ 1048576 := Nat.le_trans (le_szNd_name q) hz
  obtain ⟨b', off', ka, kc, e, hb, c0, c1, c2, c3, hK0⟩ := RowNd.at hR m hml
  cases e
  rw [hq.out] at c0 c1 c2 c3
  have cA : Hid (∀ W, Below w.heap.size w W → Calls Tryz.prog 145 #[.slice (some ⟨b, off, none⟩) N cap, .int .i64 (m : Int)] W fun e w' => AheadAns ns m q.kids W e w' ∧ Below W.heap.size W w') := fun W hW =>
    kindsAhead_any b off N cap m ns q W hl ((RowTy.Row.keep hR hW).up hW.size) hN hm hq hkl
  have HRes : Hid ((headOk q && kidsTo ns (m : Int) q q.kids.length) = (saysName q.num q.name && ((decide (q.kids.length ≤ 12) && aheadTo (m : Int) q.kids q.kids.length) && tkLen0 (kindsOf ns q.kids)))) :=
    nodeParts (by rcases hcl with h | h | h | h | h <;> rw [h] <;> rfl) (parts_use _ _ _ hcl) (by rw [took_use q.kind _ hcl, kindsOf_len])
  obtain ⟨r, hr⟩ : ∃ r, Hid ((decide (q.kids.length ≤ 12) && aheadTo (m : Int) q.kids q.kids.length) = r) := ⟨_, (rfl : (decide (q.kids.length ≤ 12) && aheadTo (m : Int) q.kids q.kids.length) = _)⟩
  have HL : Hid (r = true → (kindsOf ns q.kids).length ≤ 12) := fun h => by
    rw [kindsOf_len]
    have := hr.out
    rw [h] at this
    simp at this
    exact this.1
  rw [hr.out] at HRes
  obtain ⟨ks, hks⟩ : ∃ ks, Hid (kindsOf ns q.kids = ks) := ⟨_, (rfl : kindsOf ns q.kids = kindsOf ns q.kids)⟩
  rw [hks.out] at HRes HL
  obtain ⟨res, hres⟩ : ∃ res, Hid ((headOk q && kidsTo ns (m : Int) q q.kids.length) = res) := ⟨_, (rfl : (headOk q && kidsTo ns (m : Int) q q.kids.length) = _)⟩
  rw [hres.out] at HRes ⊢
  obtain ⟨kd, nm, tx, kids⟩ := q
  simp only at c0 c1 c2 c3 HRes hcl htl hr hks
  obtain ⟨K, HK⟩ : ∃ K, Hid (kids.length = K) := ⟨_, (rfl : kids.length = kids.length)⟩
  rw [HK.out] at c3
  have cP : Hid (∀ W, Calls Tryz.prog 143 #[.agg #[.int .i64 kd, .int .i64 nm, .string tx, .slice ka K kc]] W fun e w' => e = .returned (.iface 186 (.agg #[.int .i64 kd, .int .i64 nm, .string tx, .slice ka K kc])) ∧ Below W.heap.size W w') := fun W => partOf_use kd nm tx _ W hcl
  obtain ⟨s, hs⟩ : ∃ s, Hid (saysName nm tx = s) := ⟨_, (rfl : saysName nm tx = saysName nm tx)⟩
  have cS : Hid (∀ W, Calls Tryz.prog 144 #[.iface 186 (.agg #[.int .i64 kd, .int .i64 nm, .string tx, .slice ka K kc]), .agg #[.int .i64 kd, .int .i64 nm, .string tx, .slice ka K kc]] W fun e w' => e = .returned (.bool s) ∧ Below W.heap.size W w') := fun W => by
    rw [← hs.out]
    exact says_use kd nm tx _ W htl
  obtain ⟨tk, htk⟩ : ∃ tk, Hid (tkLen0 ks = tk) := ⟨_, (rfl : tkLen0 ks = tkLen0 ks)⟩
  have cT : Hid (∀ W v, r = true → OwnsI W w.heap.size v ks → Calls Tryz.prog 234 #[.agg #[.int .i64 kd, .int .i64 nm, .string tx, .slice ka K kc], v] W fun e w' => e = .returned (.bool tk) ∧ Below W.heap.size W w') := fun W v h ho => by
    rw [← htk.out]
    exact takes_use W.heap.size kd nm tx _ v ks W (Nat.le_refl _) ho.row (HL.out h)
  rw [hs.out, htk.out] at HRes
  have cB : Hid (∀ W, Calls Tryz.prog 93 #[.slice (some ⟨b, off, none⟩) N cap, .int .i64 (m : Int)] W fun e w' => e = .returned (.bool true) ∧ w' = W) := fun W => by
    have := isPlace_any (some ⟨b, off, none⟩) N cap (m : Int) W
    rw [show isIn (m : Int) 0 ((N : Int) - 1) = true by simp [isIn]; omega] at this
    exact this
  have hm0 : (0 : Int) ≤ (m : Int) := by omega
  have hm1 : (m : Int) < (N : Int) := by omega
  clear hK0 hR hkl htl hz hcl
  go_enter Tryz.func94, Tryz.ntmps94
  go_wp2_with (go_at_call 93; refine Calls.mono (cB.out _) ?_; rintro e w1 ⟨rfl, h⟩; obtain rfl := h.symm)
  go_at_call 143
  refine Calls.mono (cP.out _) ?_
  rintro e w1 ⟨rfl, hb1⟩
  have d0 := (hb1.cell (p := ⟨b, off + m * 4, none⟩) hb).trans c0
  have d1 := (hb1.cell (p := ⟨b, off + m * 4 + 1, none⟩) hb).trans c1
  have d2 := (hb1.cell (p := ⟨b, off + m * 4 + 2, none⟩) hb).trans c2
  have d3 := (hb1.cell (p := ⟨b, off + m * 4 + 3, none⟩) hb).trans c3
  have HB1 : Hid (Below w.heap.size w w1) := hb1
  clear hb1 c0 c1 c2 c3 cP cB
  go_wp2_with fail
  go_at_call 144
  refine Calls.mono (cS.out _) ?_
  rintro e w2 ⟨rfl, hb2⟩
  have HB2 : Hid (Below w.heap.size w w2) := HB1.out.trans (hb2.mono HB1.out.size)
  clear hb2 d0 d1 d2 d3 cS HB1
  cases s
  · go_wp2
    go_ret
    exact ⟨by rw [HRes.out]; rfl, HB2.out⟩
  go_wp2_with fail
  go_at_call 145
  refine Calls.mono (cA.out _ HB2.out) ?_
  rintro e w3 ⟨hh, hb3⟩
  obtain ⟨v, r', rfl, hr', ho⟩ := hh.ex
  rw [hr.out] at hr'
  rw [hks.out] at ho
  obtain rfl := hr'
  have HB3 : Hid (Below w.heap.size w w3) := HB2.out.trans (hb3.mono HB2.out.size)
  have HO : Hid (r' = true → OwnsI w3 w.heap.size v ks) := fun h => OwnsR.base (ho h) (fun g hg => by have := (OwnsR.lt (ho h) g hg).1; have := HB2.out.size; omega)
  clear hb3 ho cA
  cases r'
  · go_wp2
    go_ret
    exact ⟨by rw [HRes.out]; rfl, HB3.out⟩
  go_wp2_with fail
  go_at_call 234
  refine Calls.mono (cT.out _ _ (by trivial) (HO.out (by trivial))) ?_
  rintro e w4 ⟨rfl, hb4⟩
  have HB4 : Hid (Below w.heap.size w w4) := HB3.out.trans (hb4.mono HB3.out.size)
  clear hb4
  go_wp2
  go_ret
  exact ⟨by rw [HRes.out]; rfl, HB4.out⟩

theorem parts_input (kd nm : Int) (tx : ByteArray) (h : kd = 7) : saysNone nm tx = headRest kd nm tx := by
  have hn := @nameOk_some tx
  unfold saysNone headRest
  have e1 : isNamed kd = false := by subst h; rfl
  rw [e1]
  subst h
  all_goals
    by_cases h0 : nm = 0
    · subst h0
      by_cases h2 : tx.size = 0
      · cases hk : nameOk tx <;> simp [isIn, h2]
        all_goals (try (have := hn hk; omega))
      · cases hk : nameOk tx <;> simp [isIn, h2]
        all_goals (try omega)
    · cases hk : nameOk tx <;> by_cases h2 : tx.size = 0 <;> simp [isIn, h0, h2]
      all_goals (try (have := hn hk; omega))
      all_goals (try omega)
theorem took_input (kd : Int) (ks : List Int) (h : kd = 7) : tkLen0 ks = (isIn (ks.length : Int) (kidsLow kd) (kidsHigh kd) && fitsTo kd ks ks.length) := by
  subst h
  all_goals
    unfold tkLen0
    cases ks with
    | nil => rfl
    | cons x xs =>
      have : isIn (((x :: xs).length : Nat) : Int) 0 0 = false := by first | (simp [isIn]; done) | (simp [isIn]; omega)
      show _ = (isIn (((x :: xs).length : Nat) : Int) 0 0 && _)
      rw [this]
      simp

set_option maxRecDepth 100000 in
set_option maxHeartbeats 3200000 in
theorem implNodeOk_input (b off N cap m : Nat) (ns : List Nd) (q : Nd) (w : World) (hl : N ≤ 1048576) (hR : NdR.Row w w.heap.size (.slice (some ⟨b, off, none⟩) N cap) ns) (hN : Hid (ns.length = N)) (hm : m < N) (hq : Hid (ns[m]'(by rw [hN.out]; exact hm) = q)) (hz : szNd q ≤ 1048576) (hcl : q.kind = 7) :
    Calls Tryz.prog 94 #[.slice (some ⟨b, off, none⟩) N cap, .int .i64 (m : Int)] w fun e w' => e = .returned (.bool (headOk q && kidsTo ns (m : Int) q q.kids.length)) ∧ Below w.heap.size w w' := by
  have hml : m < ns.length := by rw [hN.out]; exact hm
  have hkl : q.kids.length ≤ 1048576 := Nat.le_trans (le_szNd_kids q) hz
  have htl : q.name.size ≤ 1048576 := Nat.le_trans (le_szNd_name q) hz
  obtain ⟨b', off', ka, kc, e, hb, c0, c1, c2, c3, hK0⟩ := RowNd.at hR m hml
  cases e
  rw [hq.out] at c0 c1 c2 c3
  have cA : Hid (∀ W, Below w.heap.size w W → Calls Tryz.prog 145 #[.slice (some ⟨b, off, none⟩) N cap, .int .i64 (m : Int)] W fun e w' => AheadAns ns m q.kids W e w' ∧ Below W.heap.size W w') := fun W hW =>
    kindsAhead_any b off N cap m ns q W hl ((RowTy.Row.keep hR hW).up hW.size) hN hm hq hkl
  have HRes : Hid ((headOk q && kidsTo ns (m : Int) q q.kids.length) = (saysNone q.num q.name && ((decide (q.kids.length ≤ 12) && aheadTo (m : Int) q.kids q.kids.length) && tkLen0 (kindsOf ns q.kids)))) :=
    nodeParts (by rw [hcl]; rfl) (parts_input _ _ _ hcl) (by rw [took_input q.kind _ hcl, kindsOf_len])
  obtain ⟨r, hr⟩ : ∃ r, Hid ((decide (q.kids.length ≤ 12) && aheadTo (m : Int) q.kids q.kids.length) = r) := ⟨_, (rfl : (decide (q.kids.length ≤ 12) && aheadTo (m : Int) q.kids q.kids.length) = _)⟩
  have HL : Hid (r = true → (kindsOf ns q.kids).length ≤ 12) := fun h => by
    rw [kindsOf_len]
    have := hr.out
    rw [h] at this
    simp at this
    exact this.1
  rw [hr.out] at HRes
  obtain ⟨ks, hks⟩ : ∃ ks, Hid (kindsOf ns q.kids = ks) := ⟨_, (rfl : kindsOf ns q.kids = kindsOf ns q.kids)⟩
  rw [hks.out] at HRes HL
  obtain ⟨res, hres⟩ : ∃ res, Hid ((headOk q && kidsTo ns (m : Int) q q.kids.length) = res) := ⟨_, (rfl : (headOk q && kidsTo ns (m : Int) q q.kids.length) = _)⟩
  rw [hres.out] at HRes ⊢
  obtain ⟨kd, nm, tx, kids⟩ := q
  simp only at c0 c1 c2 c3 HRes hcl htl hr hks
  obtain ⟨K, HK⟩ : ∃ K, Hid (kids.length = K) := ⟨_, (rfl : kids.length = kids.length)⟩
  rw [HK.out] at c3
  have cP : Hid (∀ W, Calls Tryz.prog 143 #[.agg #[.int .i64 kd, .int .i64 nm, .string tx, .slice ka K kc]] W fun e w' => e = .returned (.iface 187 (.agg #[.int .i64 kd, .int .i64 nm, .string tx, .slice ka K kc])) ∧ Below W.heap.size W w') := fun W => partOf_input kd nm tx _ W hcl
  obtain ⟨s, hs⟩ : ∃ s, Hid (saysNone nm tx = s) := ⟨_, (rfl : saysNone nm tx = saysNone nm tx)⟩
  have cS : Hid (∀ W, Calls Tryz.prog 144 #[.iface 187 (.agg #[.int .i64 kd, .int .i64 nm, .string tx, .slice ka K kc]), .agg #[.int .i64 kd, .int .i64 nm, .string tx, .slice ka K kc]] W fun e w' => e = .returned (.bool s) ∧ Below W.heap.size W w') := fun W => by
    rw [← hs.out]
    exact says_input kd nm tx _ W
  obtain ⟨tk, htk⟩ : ∃ tk, Hid (tkLen0 ks = tk) := ⟨_, (rfl : tkLen0 ks = tkLen0 ks)⟩
  have cT : Hid (∀ W v, r = true → OwnsI W w.heap.size v ks → Calls Tryz.prog 235 #[.agg #[.int .i64 kd, .int .i64 nm, .string tx, .slice ka K kc], v] W fun e w' => e = .returned (.bool tk) ∧ Below W.heap.size W w') := fun W v h ho => by
    rw [← htk.out]
    exact takes_input W.heap.size kd nm tx _ v ks W (Nat.le_refl _) ho.row (HL.out h)
  rw [hs.out, htk.out] at HRes
  have cB : Hid (∀ W, Calls Tryz.prog 93 #[.slice (some ⟨b, off, none⟩) N cap, .int .i64 (m : Int)] W fun e w' => e = .returned (.bool true) ∧ w' = W) := fun W => by
    have := isPlace_any (some ⟨b, off, none⟩) N cap (m : Int) W
    rw [show isIn (m : Int) 0 ((N : Int) - 1) = true by simp [isIn]; omega] at this
    exact this
  have hm0 : (0 : Int) ≤ (m : Int) := by omega
  have hm1 : (m : Int) < (N : Int) := by omega
  clear hK0 hR hkl htl hz hcl
  go_enter Tryz.func94, Tryz.ntmps94
  go_wp2_with (go_at_call 93; refine Calls.mono (cB.out _) ?_; rintro e w1 ⟨rfl, h⟩; obtain rfl := h.symm)
  go_at_call 143
  refine Calls.mono (cP.out _) ?_
  rintro e w1 ⟨rfl, hb1⟩
  have d0 := (hb1.cell (p := ⟨b, off + m * 4, none⟩) hb).trans c0
  have d1 := (hb1.cell (p := ⟨b, off + m * 4 + 1, none⟩) hb).trans c1
  have d2 := (hb1.cell (p := ⟨b, off + m * 4 + 2, none⟩) hb).trans c2
  have d3 := (hb1.cell (p := ⟨b, off + m * 4 + 3, none⟩) hb).trans c3
  have HB1 : Hid (Below w.heap.size w w1) := hb1
  clear hb1 c0 c1 c2 c3 cP cB
  go_wp2_with fail
  go_at_call 144
  refine Calls.mono (cS.out _) ?_
  rintro e w2 ⟨rfl, hb2⟩
  have HB2 : Hid (Below w.heap.size w w2) := HB1.out.trans (hb2.mono HB1.out.size)
  clear hb2 d0 d1 d2 d3 cS HB1
  cases s
  · go_wp2
    go_ret
    exact ⟨by rw [HRes.out]; rfl, HB2.out⟩
  go_wp2_with fail
  go_at_call 145
  refine Calls.mono (cA.out _ HB2.out) ?_
  rintro e w3 ⟨hh, hb3⟩
  obtain ⟨v, r', rfl, hr', ho⟩ := hh.ex
  rw [hr.out] at hr'
  rw [hks.out] at ho
  obtain rfl := hr'
  have HB3 : Hid (Below w.heap.size w w3) := HB2.out.trans (hb3.mono HB2.out.size)
  have HO : Hid (r' = true → OwnsI w3 w.heap.size v ks) := fun h => OwnsR.base (ho h) (fun g hg => by have := (OwnsR.lt (ho h) g hg).1; have := HB2.out.size; omega)
  clear hb3 ho cA
  cases r'
  · go_wp2
    go_ret
    exact ⟨by rw [HRes.out]; rfl, HB3.out⟩
  go_wp2_with fail
  go_at_call 235
  refine Calls.mono (cT.out _ _ (by trivial) (HO.out (by trivial))) ?_
  rintro e w4 ⟨rfl, hb4⟩
  have HB4 : Hid (Below w.heap.size w w4) := HB3.out.trans (hb4.mono HB3.out.size)
  clear hb4
  go_wp2
  go_ret
  exact ⟨by rw [HRes.out]; rfl, HB4.out⟩

theorem parts_new (kd nm : Int) (tx : ByteArray) (h : kd = 8) : saysNone nm tx = headRest kd nm tx := by
  have hn := @nameOk_some tx
  unfold saysNone headRest
  have e1 : isNamed kd = false := by subst h; rfl
  rw [e1]
  subst h
  all_goals
    by_cases h0 : nm = 0
    · subst h0
      by_cases h2 : tx.size = 0
      · cases hk : nameOk tx <;> simp [isIn, h2]
        all_goals (try (have := hn hk; omega))
      · cases hk : nameOk tx <;> simp [isIn, h2]
        all_goals (try omega)
    · cases hk : nameOk tx <;> by_cases h2 : tx.size = 0 <;> simp [isIn, h0, h2]
      all_goals (try (have := hn hk; omega))
      all_goals (try omega)
theorem took_new (kd : Int) (ks : List Int) (h : kd = 8) : tkVal 1 ks = (isIn (ks.length : Int) (kidsLow kd) (kidsHigh kd) && fitsTo kd ks ks.length) := by
  subst h
  all_goals
    rw [fitsTo_whole (fits_val (by decide)) ks]
    unfold tkVal
    show _ = (isIn (ks.length : Int) 1 1 && _)
    congr 1
    rw [Bool.eq_iff_iff]
    simp [isIn]
    try omega

set_option maxRecDepth 100000 in
set_option maxHeartbeats 3200000 in
theorem implNodeOk_new (b off N cap m : Nat) (ns : List Nd) (q : Nd) (w : World) (hl : N ≤ 1048576) (hR : NdR.Row w w.heap.size (.slice (some ⟨b, off, none⟩) N cap) ns) (hN : Hid (ns.length = N)) (hm : m < N) (hq : Hid (ns[m]'(by rw [hN.out]; exact hm) = q)) (hz : szNd q ≤ 1048576) (hcl : q.kind = 8) :
    Calls Tryz.prog 94 #[.slice (some ⟨b, off, none⟩) N cap, .int .i64 (m : Int)] w fun e w' => e = .returned (.bool (headOk q && kidsTo ns (m : Int) q q.kids.length)) ∧ Below w.heap.size w w' := by
  have hml : m < ns.length := by rw [hN.out]; exact hm
  have hkl : q.kids.length ≤ 1048576 := Nat.le_trans (le_szNd_kids q) hz
  have htl : q.name.size ≤ 1048576 := Nat.le_trans (le_szNd_name q) hz
  obtain ⟨b', off', ka, kc, e, hb, c0, c1, c2, c3, hK0⟩ := RowNd.at hR m hml
  cases e
  rw [hq.out] at c0 c1 c2 c3
  have cA : Hid (∀ W, Below w.heap.size w W → Calls Tryz.prog 145 #[.slice (some ⟨b, off, none⟩) N cap, .int .i64 (m : Int)] W fun e w' => AheadAns ns m q.kids W e w' ∧ Below W.heap.size W w') := fun W hW =>
    kindsAhead_any b off N cap m ns q W hl ((RowTy.Row.keep hR hW).up hW.size) hN hm hq hkl
  have HRes : Hid ((headOk q && kidsTo ns (m : Int) q q.kids.length) = (saysNone q.num q.name && ((decide (q.kids.length ≤ 12) && aheadTo (m : Int) q.kids q.kids.length) && tkVal 1 (kindsOf ns q.kids)))) :=
    nodeParts (by rw [hcl]; rfl) (parts_new _ _ _ hcl) (by rw [took_new q.kind _ hcl, kindsOf_len])
  obtain ⟨r, hr⟩ : ∃ r, Hid ((decide (q.kids.length ≤ 12) && aheadTo (m : Int) q.kids q.kids.length) = r) := ⟨_, (rfl : (decide (q.kids.length ≤ 12) && aheadTo (m : Int) q.kids q.kids.length) = _)⟩
  have HL : Hid (r = true → (kindsOf ns q.kids).length ≤ 12) := fun h => by
    rw [kindsOf_len]
    have := hr.out
    rw [h] at this
    simp at this
    exact this.1
  rw [hr.out] at HRes
  obtain ⟨ks, hks⟩ : ∃ ks, Hid (kindsOf ns q.kids = ks) := ⟨_, (rfl : kindsOf ns q.kids = kindsOf ns q.kids)⟩
  rw [hks.out] at HRes HL
  obtain ⟨res, hres⟩ : ∃ res, Hid ((headOk q && kidsTo ns (m : Int) q q.kids.length) = res) := ⟨_, (rfl : (headOk q && kidsTo ns (m : Int) q q.kids.length) = _)⟩
  rw [hres.out] at HRes ⊢
  obtain ⟨kd, nm, tx, kids⟩ := q
  simp only at c0 c1 c2 c3 HRes hcl htl hr hks
  obtain ⟨K, HK⟩ : ∃ K, Hid (kids.length = K) := ⟨_, (rfl : kids.length = kids.length)⟩
  rw [HK.out] at c3
  have cP : Hid (∀ W, Calls Tryz.prog 143 #[.agg #[.int .i64 kd, .int .i64 nm, .string tx, .slice ka K kc]] W fun e w' => e = .returned (.iface 188 (.agg #[.int .i64 kd, .int .i64 nm, .string tx, .slice ka K kc])) ∧ Below W.heap.size W w') := fun W => partOf_new kd nm tx _ W hcl
  obtain ⟨s, hs⟩ : ∃ s, Hid (saysNone nm tx = s) := ⟨_, (rfl : saysNone nm tx = saysNone nm tx)⟩
  have cS : Hid (∀ W, Calls Tryz.prog 144 #[.iface 188 (.agg #[.int .i64 kd, .int .i64 nm, .string tx, .slice ka K kc]), .agg #[.int .i64 kd, .int .i64 nm, .string tx, .slice ka K kc]] W fun e w' => e = .returned (.bool s) ∧ Below W.heap.size W w') := fun W => by
    rw [← hs.out]
    exact says_new kd nm tx _ W
  obtain ⟨tk, htk⟩ : ∃ tk, Hid (tkVal 1 ks = tk) := ⟨_, (rfl : tkVal 1 ks = tkVal 1 ks)⟩
  have cT : Hid (∀ W v, r = true → OwnsI W w.heap.size v ks → Calls Tryz.prog 236 #[.agg #[.int .i64 kd, .int .i64 nm, .string tx, .slice ka K kc], v] W fun e w' => e = .returned (.bool tk) ∧ Below W.heap.size W w') := fun W v h ho => by
    rw [← htk.out]
    exact takes_new W.heap.size kd nm tx _ v ks W (Nat.le_refl _) ho.row (HL.out h)
  rw [hs.out, htk.out] at HRes
  have cB : Hid (∀ W, Calls Tryz.prog 93 #[.slice (some ⟨b, off, none⟩) N cap, .int .i64 (m : Int)] W fun e w' => e = .returned (.bool true) ∧ w' = W) := fun W => by
    have := isPlace_any (some ⟨b, off, none⟩) N cap (m : Int) W
    rw [show isIn (m : Int) 0 ((N : Int) - 1) = true by simp [isIn]; omega] at this
    exact this
  have hm0 : (0 : Int) ≤ (m : Int) := by omega
  have hm1 : (m : Int) < (N : Int) := by omega
  clear hK0 hR hkl htl hz hcl
  go_enter Tryz.func94, Tryz.ntmps94
  go_wp2_with (go_at_call 93; refine Calls.mono (cB.out _) ?_; rintro e w1 ⟨rfl, h⟩; obtain rfl := h.symm)
  go_at_call 143
  refine Calls.mono (cP.out _) ?_
  rintro e w1 ⟨rfl, hb1⟩
  have d0 := (hb1.cell (p := ⟨b, off + m * 4, none⟩) hb).trans c0
  have d1 := (hb1.cell (p := ⟨b, off + m * 4 + 1, none⟩) hb).trans c1
  have d2 := (hb1.cell (p := ⟨b, off + m * 4 + 2, none⟩) hb).trans c2
  have d3 := (hb1.cell (p := ⟨b, off + m * 4 + 3, none⟩) hb).trans c3
  have HB1 : Hid (Below w.heap.size w w1) := hb1
  clear hb1 c0 c1 c2 c3 cP cB
  go_wp2_with fail
  go_at_call 144
  refine Calls.mono (cS.out _) ?_
  rintro e w2 ⟨rfl, hb2⟩
  have HB2 : Hid (Below w.heap.size w w2) := HB1.out.trans (hb2.mono HB1.out.size)
  clear hb2 d0 d1 d2 d3 cS HB1
  cases s
  · go_wp2
    go_ret
    exact ⟨by rw [HRes.out]; rfl, HB2.out⟩
  go_wp2_with fail
  go_at_call 145
  refine Calls.mono (cA.out _ HB2.out) ?_
  rintro e w3 ⟨hh, hb3⟩
  obtain ⟨v, r', rfl, hr', ho⟩ := hh.ex
  rw [hr.out] at hr'
  rw [hks.out] at ho
  obtain rfl := hr'
  have HB3 : Hid (Below w.heap.size w w3) := HB2.out.trans (hb3.mono HB2.out.size)
  have HO : Hid (r' = true → OwnsI w3 w.heap.size v ks) := fun h => OwnsR.base (ho h) (fun g hg => by have := (OwnsR.lt (ho h) g hg).1; have := HB2.out.size; omega)
  clear hb3 ho cA
  cases r'
  · go_wp2
    go_ret
    exact ⟨by rw [HRes.out]; rfl, HB3.out⟩
  go_wp2_with fail
  go_at_call 236
  refine Calls.mono (cT.out _ _ (by trivial) (HO.out (by trivial))) ?_
  rintro e w4 ⟨rfl, hb4⟩
  have HB4 : Hid (Below w.heap.size w w4) := HB3.out.trans (hb4.mono HB3.out.size)
  clear hb4
  go_wp2
  go_ret
  exact ⟨by rw [HRes.out]; rfl, HB4.out⟩

theorem parts_pair (kd nm : Int) (tx : ByteArray) (h : kd = 9 ∨ kd = 10 ∨ kd = 11) : saysNone nm tx = headRest kd nm tx := by
  have hn := @nameOk_some tx
  unfold saysNone headRest
  have e1 : isNamed kd = false := by rcases h with rfl | rfl | rfl <;> rfl
  rw [e1]
  rcases h with rfl | rfl | rfl
  all_goals
    by_cases h0 : nm = 0
    · subst h0
      by_cases h2 : tx.size = 0
      · cases hk : nameOk tx <;> simp [isIn, h2]
        all_goals (try (have := hn hk; omega))
      · cases hk : nameOk tx <;> simp [isIn, h2]
        all_goals (try omega)
    · cases hk : nameOk tx <;> by_cases h2 : tx.size = 0 <;> simp [isIn, h0, h2]
      all_goals (try (have := hn hk; omega))
      all_goals (try omega)
theorem took_pair (kd : Int) (ks : List Int) (h : kd = 9 ∨ kd = 10 ∨ kd = 11) : tkVal 2 ks = (isIn (ks.length : Int) (kidsLow kd) (kidsHigh kd) && fitsTo kd ks ks.length) := by
  rcases h with rfl | rfl | rfl
  all_goals
    rw [fitsTo_whole (fits_val (by decide)) ks]
    unfold tkVal
    show _ = (isIn (ks.length : Int) 2 2 && _)
    congr 1
    rw [Bool.eq_iff_iff]
    simp [isIn]
    try omega

set_option maxRecDepth 100000 in
set_option maxHeartbeats 3200000 in
theorem implNodeOk_pair (b off N cap m : Nat) (ns : List Nd) (q : Nd) (w : World) (hl : N ≤ 1048576) (hR : NdR.Row w w.heap.size (.slice (some ⟨b, off, none⟩) N cap) ns) (hN : Hid (ns.length = N)) (hm : m < N) (hq : Hid (ns[m]'(by rw [hN.out]; exact hm) = q)) (hz : szNd q ≤ 1048576) (hcl : q.kind = 9 ∨ q.kind = 10 ∨ q.kind = 11) :
    Calls Tryz.prog 94 #[.slice (some ⟨b, off, none⟩) N cap, .int .i64 (m : Int)] w fun e w' => e = .returned (.bool (headOk q && kidsTo ns (m : Int) q q.kids.length)) ∧ Below w.heap.size w w' := by
  have hml : m < ns.length := by rw [hN.out]; exact hm
  have hkl : q.kids.length ≤ 1048576 := Nat.le_trans (le_szNd_kids q) hz
  have htl : q.name.size ≤ 1048576 := Nat.le_trans (le_szNd_name q) hz
  obtain ⟨b', off', ka, kc, e, hb, c0, c1, c2, c3, hK0⟩ := RowNd.at hR m hml
  cases e
  rw [hq.out] at c0 c1 c2 c3
  have cA : Hid (∀ W, Below w.heap.size w W → Calls Tryz.prog 145 #[.slice (some ⟨b, off, none⟩) N cap, .int .i64 (m : Int)] W fun e w' => AheadAns ns m q.kids W e w' ∧ Below W.heap.size W w') := fun W hW =>
    kindsAhead_any b off N cap m ns q W hl ((RowTy.Row.keep hR hW).up hW.size) hN hm hq hkl
  have HRes : Hid ((headOk q && kidsTo ns (m : Int) q q.kids.length) = (saysNone q.num q.name && ((decide (q.kids.length ≤ 12) && aheadTo (m : Int) q.kids q.kids.length) && tkVal 2 (kindsOf ns q.kids)))) :=
    nodeParts (by rcases hcl with h | h | h <;> rw [h] <;> rfl) (parts_pair _ _ _ hcl) (by rw [took_pair q.kind _ hcl, kindsOf_len])
  obtain ⟨r, hr⟩ : ∃ r, Hid ((decide (q.kids.length ≤ 12) && aheadTo (m : Int) q.kids q.kids.length) = r) := ⟨_, (rfl : (decide (q.kids.length ≤ 12) && aheadTo (m : Int) q.kids q.kids.length) = _)⟩
  have HL : Hid (r = true → (kindsOf ns q.kids).length ≤ 12) := fun h => by
    rw [kindsOf_len]
    have := hr.out
    rw [h] at this
    simp at this
    exact this.1
  rw [hr.out] at HRes
  obtain ⟨ks, hks⟩ : ∃ ks, Hid (kindsOf ns q.kids = ks) := ⟨_, (rfl : kindsOf ns q.kids = kindsOf ns q.kids)⟩
  rw [hks.out] at HRes HL
  obtain ⟨res, hres⟩ : ∃ res, Hid ((headOk q && kidsTo ns (m : Int) q q.kids.length) = res) := ⟨_, (rfl : (headOk q && kidsTo ns (m : Int) q q.kids.length) = _)⟩
  rw [hres.out] at HRes ⊢
  obtain ⟨kd, nm, tx, kids⟩ := q
  simp only at c0 c1 c2 c3 HRes hcl htl hr hks
  obtain ⟨K, HK⟩ : ∃ K, Hid (kids.length = K) := ⟨_, (rfl : kids.length = kids.length)⟩
  rw [HK.out] at c3
  have cP : Hid (∀ W, Calls Tryz.prog 143 #[.agg #[.int .i64 kd, .int .i64 nm, .string tx, .slice ka K kc]] W fun e w' => e = .returned (.iface 189 (.agg #[.int .i64 kd, .int .i64 nm, .string tx, .slice ka K kc])) ∧ Below W.heap.size W w') := fun W => partOf_pair kd nm tx _ W hcl
  obtain ⟨s, hs⟩ : ∃ s, Hid (saysNone nm tx = s) := ⟨_, (rfl : saysNone nm tx = saysNone nm tx)⟩
  have cS : Hid (∀ W, Calls Tryz.prog 144 #[.iface 189 (.agg #[.int .i64 kd, .int .i64 nm, .string tx, .slice ka K kc]), .agg #[.int .i64 kd, .int .i64 nm, .string tx, .slice ka K kc]] W fun e w' => e = .returned (.bool s) ∧ Below W.heap.size W w') := fun W => by
    rw [← hs.out]
    exact says_pair kd nm tx _ W
  obtain ⟨tk, htk⟩ : ∃ tk, Hid (tkVal 2 ks = tk) := ⟨_, (rfl : tkVal 2 ks = tkVal 2 ks)⟩
  have cT : Hid (∀ W v, r = true → OwnsI W w.heap.size v ks → Calls Tryz.prog 238 #[.agg #[.int .i64 kd, .int .i64 nm, .string tx, .slice ka K kc], v] W fun e w' => e = .returned (.bool tk) ∧ Below W.heap.size W w') := fun W v h ho => by
    rw [← htk.out]
    exact takes_pair W.heap.size kd nm tx _ v ks W (Nat.le_refl _) ho.row (HL.out h)
  rw [hs.out, htk.out] at HRes
  have cB : Hid (∀ W, Calls Tryz.prog 93 #[.slice (some ⟨b, off, none⟩) N cap, .int .i64 (m : Int)] W fun e w' => e = .returned (.bool true) ∧ w' = W) := fun W => by
    have := isPlace_any (some ⟨b, off, none⟩) N cap (m : Int) W
    rw [show isIn (m : Int) 0 ((N : Int) - 1) = true by simp [isIn]; omega] at this
    exact this
  have hm0 : (0 : Int) ≤ (m : Int) := by omega
  have hm1 : (m : Int) < (N : Int) := by omega
  clear hK0 hR hkl htl hz hcl
  go_enter Tryz.func94, Tryz.ntmps94
  go_wp2_with (go_at_call 93; refine Calls.mono (cB.out _) ?_; rintro e w1 ⟨rfl, h⟩; obtain rfl := h.symm)
  go_at_call 143
  refine Calls.mono (cP.out _) ?_
  rintro e w1 ⟨rfl, hb1⟩
  have d0 := (hb1.cell (p := ⟨b, off + m * 4, none⟩) hb).trans c0
  have d1 := (hb1.cell (p := ⟨b, off + m * 4 + 1, none⟩) hb).trans c1
  have d2 := (hb1.cell (p := ⟨b, off + m * 4 + 2, none⟩) hb).trans c2
  have d3 := (hb1.cell (p := ⟨b, off + m * 4 + 3, none⟩) hb).trans c3
  have HB1 : Hid (Below w.heap.size w w1) := hb1
  clear hb1 c0 c1 c2 c3 cP cB
  go_wp2_with fail
  go_at_call 144
  refine Calls.mono (cS.out _) ?_
  rintro e w2 ⟨rfl, hb2⟩
  have HB2 : Hid (Below w.heap.size w w2) := HB1.out.trans (hb2.mono HB1.out.size)
  clear hb2 d0 d1 d2 d3 cS HB1
  cases s
  · go_wp2
    go_ret
    exact ⟨by rw [HRes.out]; rfl, HB2.out⟩
  go_wp2_with fail
  go_at_call 145
  refine Calls.mono (cA.out _ HB2.out) ?_
  rintro e w3 ⟨hh, hb3⟩
  obtain ⟨v, r', rfl, hr', ho⟩ := hh.ex
  rw [hr.out] at hr'
  rw [hks.out] at ho
  obtain rfl := hr'
  have HB3 : Hid (Below w.heap.size w w3) := HB2.out.trans (hb3.mono HB2.out.size)
  have HO : Hid (r' = true → OwnsI w3 w.heap.size v ks) := fun h => OwnsR.base (ho h) (fun g hg => by have := (OwnsR.lt (ho h) g hg).1; have := HB2.out.size; omega)
  clear hb3 ho cA
  cases r'
  · go_wp2
    go_ret
    exact ⟨by rw [HRes.out]; rfl, HB3.out⟩
  go_wp2_with fail
  go_at_call 238
  refine Calls.mono (cT.out _ _ (by trivial) (HO.out (by trivial))) ?_
  rintro e w4 ⟨rfl, hb4⟩
  have HB4 : Hid (Below w.heap.size w w4) := HB3.out.trans (hb4.mono HB3.out.size)
  clear hb4
  go_wp2
  go_ret
  exact ⟨by rw [HRes.out]; rfl, HB4.out⟩

theorem parts_call (kd nm : Int) (tx : ByteArray) (h : kd = 12) : saysName nm tx = headRest kd nm tx := by
  have hn := @nameOk_some tx
  unfold saysName headRest
  have e1 : isNamed kd = true := by subst h; rfl
  rw [e1]
  subst h
  all_goals
    by_cases h0 : nm = 0
    · subst h0
      by_cases h2 : tx.size = 0
      · cases hk : nameOk tx <;> simp [isIn, h2]
        all_goals (try (have := hn hk; omega))
      · cases hk : nameOk tx <;> simp [isIn, h2]
        all_goals (try omega)
    · cases hk : nameOk tx <;> by_cases h2 : tx.size = 0 <;> simp [isIn, h0, h2]
      all_goals (try (have := hn hk; omega))
      all_goals (try omega)
theorem took_call (kd : Int) (ks : List Int) (h : kd = 12) : tkCall ks = (isIn (ks.length : Int) (kidsLow kd) (kidsHigh kd) && fitsTo kd ks ks.length) := by
  subst h
  all_goals
    rw [fitsTo_whole (fits_val (by decide)) ks]
    unfold tkCall
    show _ = (isIn (ks.length : Int) 0 3 && _)
    congr 1
    rw [Bool.eq_iff_iff]
    simp [isIn]
    try omega

set_option maxRecDepth 100000 in
set_option maxHeartbeats 3200000 in
theorem implNodeOk_call (b off N cap m : Nat) (ns : List Nd) (q : Nd) (w : World) (hl : N ≤ 1048576) (hR : NdR.Row w w.heap.size (.slice (some ⟨b, off, none⟩) N cap) ns) (hN : Hid (ns.length = N)) (hm : m < N) (hq : Hid (ns[m]'(by rw [hN.out]; exact hm) = q)) (hz : szNd q ≤ 1048576) (hcl : q.kind = 12) :
    Calls Tryz.prog 94 #[.slice (some ⟨b, off, none⟩) N cap, .int .i64 (m : Int)] w fun e w' => e = .returned (.bool (headOk q && kidsTo ns (m : Int) q q.kids.length)) ∧ Below w.heap.size w w' := by
  have hml : m < ns.length := by rw [hN.out]; exact hm
  have hkl : q.kids.length ≤ 1048576 := Nat.le_trans (le_szNd_kids q) hz
  have htl : q.name.size ≤ 1048576 := Nat.le_trans (le_szNd_name q) hz
  obtain ⟨b', off', ka, kc, e, hb, c0, c1, c2, c3, hK0⟩ := RowNd.at hR m hml
  cases e
  rw [hq.out] at c0 c1 c2 c3
  have cA : Hid (∀ W, Below w.heap.size w W → Calls Tryz.prog 145 #[.slice (some ⟨b, off, none⟩) N cap, .int .i64 (m : Int)] W fun e w' => AheadAns ns m q.kids W e w' ∧ Below W.heap.size W w') := fun W hW =>
    kindsAhead_any b off N cap m ns q W hl ((RowTy.Row.keep hR hW).up hW.size) hN hm hq hkl
  have HRes : Hid ((headOk q && kidsTo ns (m : Int) q q.kids.length) = (saysName q.num q.name && ((decide (q.kids.length ≤ 12) && aheadTo (m : Int) q.kids q.kids.length) && tkCall (kindsOf ns q.kids)))) :=
    nodeParts (by rw [hcl]; rfl) (parts_call _ _ _ hcl) (by rw [took_call q.kind _ hcl, kindsOf_len])
  obtain ⟨r, hr⟩ : ∃ r, Hid ((decide (q.kids.length ≤ 12) && aheadTo (m : Int) q.kids q.kids.length) = r) := ⟨_, (rfl : (decide (q.kids.length ≤ 12) && aheadTo (m : Int) q.kids q.kids.length) = _)⟩
  have HL : Hid (r = true → (kindsOf ns q.kids).length ≤ 12) := fun h => by
    rw [kindsOf_len]
    have := hr.out
    rw [h] at this
    simp at this
    exact this.1
  rw [hr.out] at HRes
  obtain ⟨ks, hks⟩ : ∃ ks, Hid (kindsOf ns q.kids = ks) := ⟨_, (rfl : kindsOf ns q.kids = kindsOf ns q.kids)⟩
  rw [hks.out] at HRes HL
  obtain ⟨res, hres⟩ : ∃ res, Hid ((headOk q && kidsTo ns (m : Int) q q.kids.length) = res) := ⟨_, (rfl : (headOk q && kidsTo ns (m : Int) q q.kids.length) = _)⟩
  rw [hres.out] at HRes ⊢
  obtain ⟨kd, nm, tx, kids⟩ := q
  simp only at c0 c1 c2 c3 HRes hcl htl hr hks
  obtain ⟨K, HK⟩ : ∃ K, Hid (kids.length = K) := ⟨_, (rfl : kids.length = kids.length)⟩
  rw [HK.out] at c3
  have cP : Hid (∀ W, Calls Tryz.prog 143 #[.agg #[.int .i64 kd, .int .i64 nm, .string tx, .slice ka K kc]] W fun e w' => e = .returned (.iface 190 (.agg #[.int .i64 kd, .int .i64 nm, .string tx, .slice ka K kc])) ∧ Below W.heap.size W w') := fun W => partOf_call kd nm tx _ W hcl
  obtain ⟨s, hs⟩ : ∃ s, Hid (saysName nm tx = s) := ⟨_, (rfl : saysName nm tx = saysName nm tx)⟩
  have cS : Hid (∀ W, Calls Tryz.prog 144 #[.iface 190 (.agg #[.int .i64 kd, .int .i64 nm, .string tx, .slice ka K kc]), .agg #[.int .i64 kd, .int .i64 nm, .string tx, .slice ka K kc]] W fun e w' => e = .returned (.bool s) ∧ Below W.heap.size W w') := fun W => by
    rw [← hs.out]
    exact says_call kd nm tx _ W htl
  obtain ⟨tk, htk⟩ : ∃ tk, Hid (tkCall ks = tk) := ⟨_, (rfl : tkCall ks = tkCall ks)⟩
  have cT : Hid (∀ W v, r = true → OwnsI W w.heap.size v ks → Calls Tryz.prog 239 #[.agg #[.int .i64 kd, .int .i64 nm, .string tx, .slice ka K kc], v] W fun e w' => e = .returned (.bool tk) ∧ Below W.heap.size W w') := fun W v h ho => by
    rw [← htk.out]
    exact takes_call W.heap.size kd nm tx _ v ks W (Nat.le_refl _) ho.row (HL.out h)
  rw [hs.out, htk.out] at HRes
  have cB : Hid (∀ W, Calls Tryz.prog 93 #[.slice (some ⟨b, off, none⟩) N cap, .int .i64 (m : Int)] W fun e w' => e = .returned (.bool true) ∧ w' = W) := fun W => by
    have := isPlace_any (some ⟨b, off, none⟩) N cap (m : Int) W
    rw [show isIn (m : Int) 0 ((N : Int) - 1) = true by simp [isIn]; omega] at this
    exact this
  have hm0 : (0 : Int) ≤ (m : Int) := by omega
  have hm1 : (m : Int) < (N : Int) := by omega
  clear hK0 hR hkl htl hz hcl
  go_enter Tryz.func94, Tryz.ntmps94
  go_wp2_with (go_at_call 93; refine Calls.mono (cB.out _) ?_; rintro e w1 ⟨rfl, h⟩; obtain rfl := h.symm)
  go_at_call 143
  refine Calls.mono (cP.out _) ?_
  rintro e w1 ⟨rfl, hb1⟩
  have d0 := (hb1.cell (p := ⟨b, off + m * 4, none⟩) hb).trans c0
  have d1 := (hb1.cell (p := ⟨b, off + m * 4 + 1, none⟩) hb).trans c1
  have d2 := (hb1.cell (p := ⟨b, off + m * 4 + 2, none⟩) hb).trans c2
  have d3 := (hb1.cell (p := ⟨b, off + m * 4 + 3, none⟩) hb).trans c3
  have HB1 : Hid (Below w.heap.size w w1) := hb1
  clear hb1 c0 c1 c2 c3 cP cB
  go_wp2_with fail
  go_at_call 144
  refine Calls.mono (cS.out _) ?_
  rintro e w2 ⟨rfl, hb2⟩
  have HB2 : Hid (Below w.heap.size w w2) := HB1.out.trans (hb2.mono HB1.out.size)
  clear hb2 d0 d1 d2 d3 cS HB1
  cases s
  · go_wp2
    go_ret
    exact ⟨by rw [HRes.out]; rfl, HB2.out⟩
  go_wp2_with fail
  go_at_call 145
  refine Calls.mono (cA.out _ HB2.out) ?_
  rintro e w3 ⟨hh, hb3⟩
  obtain ⟨v, r', rfl, hr', ho⟩ := hh.ex
  rw [hr.out] at hr'
  rw [hks.out] at ho
  obtain rfl := hr'
  have HB3 : Hid (Below w.heap.size w w3) := HB2.out.trans (hb3.mono HB2.out.size)
  have HO : Hid (r' = true → OwnsI w3 w.heap.size v ks) := fun h => OwnsR.base (ho h) (fun g hg => by have := (OwnsR.lt (ho h) g hg).1; have := HB2.out.size; omega)
  clear hb3 ho cA
  cases r'
  · go_wp2
    go_ret
    exact ⟨by rw [HRes.out]; rfl, HB3.out⟩
  go_wp2_with fail
  go_at_call 239
  refine Calls.mono (cT.out _ _ (by trivial) (HO.out (by trivial))) ?_
  rintro e w4 ⟨rfl, hb4⟩
  have HB4 : Hid (Below w.heap.size w w4) := HB3.out.trans (hb4.mono HB3.out.size)
  clear hb4
  go_wp2
  go_ret
  exact ⟨by rw [HRes.out]; rfl, HB4.out⟩

theorem parts_hold (kd nm : Int) (tx : ByteArray) (h : kd = 13 ∨ kd = 14 ∨ kd = 15) : saysName nm tx = headRest kd nm tx := by
  have hn := @nameOk_some tx
  unfold saysName headRest
  have e1 : isNamed kd = true := by rcases h with rfl | rfl | rfl <;> rfl
  rw [e1]
  rcases h with rfl | rfl | rfl
  all_goals
    by_cases h0 : nm = 0
    · subst h0
      by_cases h2 : tx.size = 0
      · cases hk : nameOk tx <;> simp [isIn, h2]
        all_goals (try (have := hn hk; omega))
      · cases hk : nameOk tx <;> simp [isIn, h2]
        all_goals (try omega)
    · cases hk : nameOk tx <;> by_cases h2 : tx.size = 0 <;> simp [isIn, h0, h2]
      all_goals (try (have := hn hk; omega))
      all_goals (try omega)
theorem took_hold (kd : Int) (ks : List Int) (h : kd = 13 ∨ kd = 14 ∨ kd = 15) : tkVal 1 ks = (isIn (ks.length : Int) (kidsLow kd) (kidsHigh kd) && fitsTo kd ks ks.length) := by
  rcases h with rfl | rfl | rfl
  all_goals
    rw [fitsTo_whole (fits_val (by decide)) ks]
    unfold tkVal
    show _ = (isIn (ks.length : Int) 1 1 && _)
    congr 1
    rw [Bool.eq_iff_iff]
    simp [isIn]
    try omega

set_option maxRecDepth 100000 in
set_option maxHeartbeats 3200000 in
theorem implNodeOk_hold (b off N cap m : Nat) (ns : List Nd) (q : Nd) (w : World) (hl : N ≤ 1048576) (hR : NdR.Row w w.heap.size (.slice (some ⟨b, off, none⟩) N cap) ns) (hN : Hid (ns.length = N)) (hm : m < N) (hq : Hid (ns[m]'(by rw [hN.out]; exact hm) = q)) (hz : szNd q ≤ 1048576) (hcl : q.kind = 13 ∨ q.kind = 14 ∨ q.kind = 15) :
    Calls Tryz.prog 94 #[.slice (some ⟨b, off, none⟩) N cap, .int .i64 (m : Int)] w fun e w' => e = .returned (.bool (headOk q && kidsTo ns (m : Int) q q.kids.length)) ∧ Below w.heap.size w w' := by
  have hml : m < ns.length := by rw [hN.out]; exact hm
  have hkl : q.kids.length ≤ 1048576 := Nat.le_trans (le_szNd_kids q) hz
  have htl : q.name.size ≤ 1048576 := Nat.le_trans (le_szNd_name q) hz
  obtain ⟨b', off', ka, kc, e, hb, c0, c1, c2, c3, hK0⟩ := RowNd.at hR m hml
  cases e
  rw [hq.out] at c0 c1 c2 c3
  have cA : Hid (∀ W, Below w.heap.size w W → Calls Tryz.prog 145 #[.slice (some ⟨b, off, none⟩) N cap, .int .i64 (m : Int)] W fun e w' => AheadAns ns m q.kids W e w' ∧ Below W.heap.size W w') := fun W hW =>
    kindsAhead_any b off N cap m ns q W hl ((RowTy.Row.keep hR hW).up hW.size) hN hm hq hkl
  have HRes : Hid ((headOk q && kidsTo ns (m : Int) q q.kids.length) = (saysName q.num q.name && ((decide (q.kids.length ≤ 12) && aheadTo (m : Int) q.kids q.kids.length) && tkVal 1 (kindsOf ns q.kids)))) :=
    nodeParts (by rcases hcl with h | h | h <;> rw [h] <;> rfl) (parts_hold _ _ _ hcl) (by rw [took_hold q.kind _ hcl, kindsOf_len])
  obtain ⟨r, hr⟩ : ∃ r, Hid ((decide (q.kids.length ≤ 12) && aheadTo (m : Int) q.kids q.kids.length) = r) := ⟨_, (rfl : (decide (q.kids.length ≤ 12) && aheadTo (m : Int) q.kids q.kids.length) = _)⟩
  have HL : Hid (r = true → (kindsOf ns q.kids).length ≤ 12) := fun h => by
    rw [kindsOf_len]
    have := hr.out
    rw [h] at this
    simp at this
    exact this.1
  rw [hr.out] at HRes
  obtain ⟨ks, hks⟩ : ∃ ks, Hid (kindsOf ns q.kids = ks) := ⟨_, (rfl : kindsOf ns q.kids = kindsOf ns q.kids)⟩
  rw [hks.out] at HRes HL
  obtain ⟨res, hres⟩ : ∃ res, Hid ((headOk q && kidsTo ns (m : Int) q q.kids.length) = res) := ⟨_, (rfl : (headOk q && kidsTo ns (m : Int) q q.kids.length) = _)⟩
  rw [hres.out] at HRes ⊢
  obtain ⟨kd, nm, tx, kids⟩ := q
  simp only at c0 c1 c2 c3 HRes hcl htl hr hks
  obtain ⟨K, HK⟩ : ∃ K, Hid (kids.length = K) := ⟨_, (rfl : kids.length = kids.length)⟩
  rw [HK.out] at c3
  have cP : Hid (∀ W, Calls Tryz.prog 143 #[.agg #[.int .i64 kd, .int .i64 nm, .string tx, .slice ka K kc]] W fun e w' => e = .returned (.iface 191 (.agg #[.int .i64 kd, .int .i64 nm, .string tx, .slice ka K kc])) ∧ Below W.heap.size W w') := fun W => partOf_hold kd nm tx _ W hcl
  obtain ⟨s, hs⟩ : ∃ s, Hid (saysName nm tx = s) := ⟨_, (rfl : saysName nm tx = saysName nm tx)⟩
  have cS : Hid (∀ W, Calls Tryz.prog 144 #[.iface 191 (.agg #[.int .i64 kd, .int .i64 nm, .string tx, .slice ka K kc]), .agg #[.int .i64 kd, .int .i64 nm, .string tx, .slice ka K kc]] W fun e w' => e = .returned (.bool s) ∧ Below W.heap.size W w') := fun W => by
    rw [← hs.out]
    exact says_hold kd nm tx _ W htl
  obtain ⟨tk, htk⟩ : ∃ tk, Hid (tkVal 1 ks = tk) := ⟨_, (rfl : tkVal 1 ks = tkVal 1 ks)⟩
  have cT : Hid (∀ W v, r = true → OwnsI W w.heap.size v ks → Calls Tryz.prog 240 #[.agg #[.int .i64 kd, .int .i64 nm, .string tx, .slice ka K kc], v] W fun e w' => e = .returned (.bool tk) ∧ Below W.heap.size W w') := fun W v h ho => by
    rw [← htk.out]
    exact takes_hold W.heap.size kd nm tx _ v ks W (Nat.le_refl _) ho.row (HL.out h)
  rw [hs.out, htk.out] at HRes
  have cB : Hid (∀ W, Calls Tryz.prog 93 #[.slice (some ⟨b, off, none⟩) N cap, .int .i64 (m : Int)] W fun e w' => e = .returned (.bool true) ∧ w' = W) := fun W => by
    have := isPlace_any (some ⟨b, off, none⟩) N cap (m : Int) W
    rw [show isIn (m : Int) 0 ((N : Int) - 1) = true by simp [isIn]; omega] at this
    exact this
  have hm0 : (0 : Int) ≤ (m : Int) := by omega
  have hm1 : (m : Int) < (N : Int) := by omega
  clear hK0 hR hkl htl hz hcl
  go_enter Tryz.func94, Tryz.ntmps94
  go_wp2_with (go_at_call 93; refine Calls.mono (cB.out _) ?_; rintro e w1 ⟨rfl, h⟩; obtain rfl := h.symm)
  go_at_call 143
  refine Calls.mono (cP.out _) ?_
  rintro e w1 ⟨rfl, hb1⟩
  have d0 := (hb1.cell (p := ⟨b, off + m * 4, none⟩) hb).trans c0
  have d1 := (hb1.cell (p := ⟨b, off + m * 4 + 1, none⟩) hb).trans c1
  have d2 := (hb1.cell (p := ⟨b, off + m * 4 + 2, none⟩) hb).trans c2
  have d3 := (hb1.cell (p := ⟨b, off + m * 4 + 3, none⟩) hb).trans c3
  have HB1 : Hid (Below w.heap.size w w1) := hb1
  clear hb1 c0 c1 c2 c3 cP cB
  go_wp2_with fail
  go_at_call 144
  refine Calls.mono (cS.out _) ?_
  rintro e w2 ⟨rfl, hb2⟩
  have HB2 : Hid (Below w.heap.size w w2) := HB1.out.trans (hb2.mono HB1.out.size)
  clear hb2 d0 d1 d2 d3 cS HB1
  cases s
  · go_wp2
    go_ret
    exact ⟨by rw [HRes.out]; rfl, HB2.out⟩
  go_wp2_with fail
  go_at_call 145
  refine Calls.mono (cA.out _ HB2.out) ?_
  rintro e w3 ⟨hh, hb3⟩
  obtain ⟨v, r', rfl, hr', ho⟩ := hh.ex
  rw [hr.out] at hr'
  rw [hks.out] at ho
  obtain rfl := hr'
  have HB3 : Hid (Below w.heap.size w w3) := HB2.out.trans (hb3.mono HB2.out.size)
  have HO : Hid (r' = true → OwnsI w3 w.heap.size v ks) := fun h => OwnsR.base (ho h) (fun g hg => by have := (OwnsR.lt (ho h) g hg).1; have := HB2.out.size; omega)
  clear hb3 ho cA
  cases r'
  · go_wp2
    go_ret
    exact ⟨by rw [HRes.out]; rfl, HB3.out⟩
  go_wp2_with fail
  go_at_call 240
  refine Calls.mono (cT.out _ _ (by trivial) (HO.out (by trivial))) ?_
  rintro e w4 ⟨rfl, hb4⟩
  have HB4 : Hid (Below w.heap.size w w4) := HB3.out.trans (hb4.mono HB3.out.size)
  clear hb4
  go_wp2
  go_ret
  exact ⟨by rw [HRes.out]; rfl, HB4.out⟩

theorem parts_if (kd nm : Int) (tx : ByteArray) (h : kd = 16) : saysNone nm tx = headRest kd nm tx := by
  have hn := @nameOk_some tx
  unfold saysNone headRest
  have e1 : isNamed kd = false := by subst h; rfl
  rw [e1]
  subst h
  all_goals
    by_cases h0 : nm = 0
    · subst h0
      by_cases h2 : tx.size = 0
      · cases hk : nameOk tx <;> simp [isIn, h2]
        all_goals (try (have := hn hk; omega))
      · cases hk : nameOk tx <;> simp [isIn, h2]
        all_goals (try omega)
    · cases hk : nameOk tx <;> by_cases h2 : tx.size = 0 <;> simp [isIn, h0, h2]
      all_goals (try (have := hn hk; omega))
      all_goals (try omega)
theorem took_if (kd : Int) (ks : List Int) (h : kd = 16) : tkIf ks = (isIn (ks.length : Int) (kidsLow kd) (kidsHigh kd) && fitsTo kd ks ks.length) := by
  subst h
  by_cases hN : ks.length = 3
  · obtain ⟨x0, x1, x2, rfl⟩ : ∃ x0 x1 x2, ks = [x0, x1, x2] := by
      match ks, hN with
      | [x0, x1, x2], _ => exact ⟨_, _, _, rfl⟩
    simp [tkIf, isIn, kidsLow, kidsHigh, fitsTo, fits]
  · have e1 : tkIf ks = false := by simp [tkIf, hN]
    have e2 : isIn (ks.length : Int) 3 3 = false := by simp [isIn]; omega
    show _ = (isIn (ks.length : Int) 3 3 && _)
    rw [e1, e2]
    rfl

set_option maxRecDepth 100000 in
set_option maxHeartbeats 3200000 in
theorem implNodeOk_if (b off N cap m : Nat) (ns : List Nd) (q : Nd) (w : World) (hl : N ≤ 1048576) (hR : NdR.Row w w.heap.size (.slice (some ⟨b, off, none⟩) N cap) ns) (hN : Hid (ns.length = N)) (hm : m < N) (hq : Hid (ns[m]'(by rw [hN.out]; exact hm) = q)) (hz : szNd q ≤ 1048576) (hcl : q.kind = 16) :
    Calls Tryz.prog 94 #[.slice (some ⟨b, off, none⟩) N cap, .int .i64 (m : Int)] w fun e w' => e = .returned (.bool (headOk q && kidsTo ns (m : Int) q q.kids.length)) ∧ Below w.heap.size w w' := by
  have hml : m < ns.length := by rw [hN.out]; exact hm
  have hkl : q.kids.length ≤ 1048576 := Nat.le_trans (le_szNd_kids q) hz
  have htl : q.name.size ≤ 1048576 := Nat.le_trans (le_szNd_name q) hz
  obtain ⟨b', off', ka, kc, e, hb, c0, c1, c2, c3, hK0⟩ := RowNd.at hR m hml
  cases e
  rw [hq.out] at c0 c1 c2 c3
  have cA : Hid (∀ W, Below w.heap.size w W → Calls Tryz.prog 145 #[.slice (some ⟨b, off, none⟩) N cap, .int .i64 (m : Int)] W fun e w' => AheadAns ns m q.kids W e w' ∧ Below W.heap.size W w') := fun W hW =>
    kindsAhead_any b off N cap m ns q W hl ((RowTy.Row.keep hR hW).up hW.size) hN hm hq hkl
  have HRes : Hid ((headOk q && kidsTo ns (m : Int) q q.kids.length) = (saysNone q.num q.name && ((decide (q.kids.length ≤ 12) && aheadTo (m : Int) q.kids q.kids.length) && tkIf (kindsOf ns q.kids)))) :=
    nodeParts (by rw [hcl]; rfl) (parts_if _ _ _ hcl) (by rw [took_if q.kind _ hcl, kindsOf_len])
  obtain ⟨r, hr⟩ : ∃ r, Hid ((decide (q.kids.length ≤ 12) && aheadTo (m : Int) q.kids q.kids.length) = r) := ⟨_, (rfl : (decide (q.kids.length ≤ 12) && aheadTo (m : Int) q.kids q.kids.length) = _)⟩
  have HL : Hid (r = true → (kindsOf ns q.kids).length ≤ 12) := fun h => by
    rw [kindsOf_len]
    have := hr.out
    rw [h] at this
    simp at this
    exact this.1
  rw [hr.out] at HRes
  obtain ⟨ks, hks⟩ : ∃ ks, Hid (kindsOf ns q.kids = ks) := ⟨_, (rfl : kindsOf ns q.kids = kindsOf ns q.kids)⟩
  rw [hks.out] at HRes HL
  obtain ⟨res, hres⟩ : ∃ res, Hid ((headOk q && kidsTo ns (m : Int) q q.kids.length) = res) := ⟨_, (rfl : (headOk q && kidsTo ns (m : Int) q q.kids.length) = _)⟩
  rw [hres.out] at HRes ⊢
  obtain ⟨kd, nm, tx, kids⟩ := q
  simp only at c0 c1 c2 c3 HRes hcl htl hr hks
  obtain ⟨K, HK⟩ : ∃ K, Hid (kids.length = K) := ⟨_, (rfl : kids.length = kids.length)⟩
  rw [HK.out] at c3
  have cP : Hid (∀ W, Calls Tryz.prog 143 #[.agg #[.int .i64 kd, .int .i64 nm, .string tx, .slice ka K kc]] W fun e w' => e = .returned (.iface 192 (.agg #[.int .i64 kd, .int .i64 nm, .string tx, .slice ka K kc])) ∧ Below W.heap.size W w') := fun W => partOf_if kd nm tx _ W hcl
  obtain ⟨s, hs⟩ : ∃ s, Hid (saysNone nm tx = s) := ⟨_, (rfl : saysNone nm tx = saysNone nm tx)⟩
  have cS : Hid (∀ W, Calls Tryz.prog 144 #[.iface 192 (.agg #[.int .i64 kd, .int .i64 nm, .string tx, .slice ka K kc]), .agg #[.int .i64 kd, .int .i64 nm, .string tx, .slice ka K kc]] W fun e w' => e = .returned (.bool s) ∧ Below W.heap.size W w') := fun W => by
    rw [← hs.out]
    exact says_if kd nm tx _ W
  obtain ⟨tk, htk⟩ : ∃ tk, Hid (tkIf ks = tk) := ⟨_, (rfl : tkIf ks = tkIf ks)⟩
  have cT : Hid (∀ W v, r = true → OwnsI W w.heap.size v ks → Calls Tryz.prog 241 #[.agg #[.int .i64 kd, .int .i64 nm, .string tx, .slice ka K kc], v] W fun e w' => e = .returned (.bool tk) ∧ Below W.heap.size W w') := fun W v h ho => by
    rw [← htk.out]
    exact takes_if W.heap.size kd nm tx _ v ks W (Nat.le_refl _) ho.row (HL.out h)
  rw [hs.out, htk.out] at HRes
  have cB : Hid (∀ W, Calls Tryz.prog 93 #[.slice (some ⟨b, off, none⟩) N cap, .int .i64 (m : Int)] W fun e w' => e = .returned (.bool true) ∧ w' = W) := fun W => by
    have := isPlace_any (some ⟨b, off, none⟩) N cap (m : Int) W
    rw [show isIn (m : Int) 0 ((N : Int) - 1) = true by simp [isIn]; omega] at this
    exact this
  have hm0 : (0 : Int) ≤ (m : Int) := by omega
  have hm1 : (m : Int) < (N : Int) := by omega
  clear hK0 hR hkl htl hz hcl
  go_enter Tryz.func94, Tryz.ntmps94
  go_wp2_with (go_at_call 93; refine Calls.mono (cB.out _) ?_; rintro e w1 ⟨rfl, h⟩; obtain rfl := h.symm)
  go_at_call 143
  refine Calls.mono (cP.out _) ?_
  rintro e w1 ⟨rfl, hb1⟩
  have d0 := (hb1.cell (p := ⟨b, off + m * 4, none⟩) hb).trans c0
  have d1 := (hb1.cell (p := ⟨b, off + m * 4 + 1, none⟩) hb).trans c1
  have d2 := (hb1.cell (p := ⟨b, off + m * 4 + 2, none⟩) hb).trans c2
  have d3 := (hb1.cell (p := ⟨b, off + m * 4 + 3, none⟩) hb).trans c3
  have HB1 : Hid (Below w.heap.size w w1) := hb1
  clear hb1 c0 c1 c2 c3 cP cB
  go_wp2_with fail
  go_at_call 144
  refine Calls.mono (cS.out _) ?_
  rintro e w2 ⟨rfl, hb2⟩
  have HB2 : Hid (Below w.heap.size w w2) := HB1.out.trans (hb2.mono HB1.out.size)
  clear hb2 d0 d1 d2 d3 cS HB1
  cases s
  · go_wp2
    go_ret
    exact ⟨by rw [HRes.out]; rfl, HB2.out⟩
  go_wp2_with fail
  go_at_call 145
  refine Calls.mono (cA.out _ HB2.out) ?_
  rintro e w3 ⟨hh, hb3⟩
  obtain ⟨v, r', rfl, hr', ho⟩ := hh.ex
  rw [hr.out] at hr'
  rw [hks.out] at ho
  obtain rfl := hr'
  have HB3 : Hid (Below w.heap.size w w3) := HB2.out.trans (hb3.mono HB2.out.size)
  have HO : Hid (r' = true → OwnsI w3 w.heap.size v ks) := fun h => OwnsR.base (ho h) (fun g hg => by have := (OwnsR.lt (ho h) g hg).1; have := HB2.out.size; omega)
  clear hb3 ho cA
  cases r'
  · go_wp2
    go_ret
    exact ⟨by rw [HRes.out]; rfl, HB3.out⟩
  go_wp2_with fail
  go_at_call 241
  refine Calls.mono (cT.out _ _ (by trivial) (HO.out (by trivial))) ?_
  rintro e w4 ⟨rfl, hb4⟩
  have HB4 : Hid (Below w.heap.size w w4) := HB3.out.trans (hb4.mono HB3.out.size)
  clear hb4
  go_wp2
  go_ret
  exact ⟨by rw [HRes.out]; rfl, HB4.out⟩

theorem parts_while (kd nm : Int) (tx : ByteArray) (h : kd = 17) : saysNone nm tx = headRest kd nm tx := by
  have hn := @nameOk_some tx
  unfold saysNone headRest
  have e1 : isNamed kd = false := by subst h; rfl
  rw [e1]
  subst h
  all_goals
    by_cases h0 : nm = 0
    · subst h0
      by_cases h2 : tx.size = 0
      · cases hk : nameOk tx <;> simp [isIn, h2]
        all_goals (try (have := hn hk; omega))
      · cases hk : nameOk tx <;> simp [isIn, h2]
        all_goals (try omega)
    · cases hk : nameOk tx <;> by_cases h2 : tx.size = 0 <;> simp [isIn, h0, h2]
      all_goals (try (have := hn hk; omega))
      all_goals (try omega)
theorem took_while (kd : Int) (ks : List Int) (h : kd = 17) : tkWhile ks = (isIn (ks.length : Int) (kidsLow kd) (kidsHigh kd) && fitsTo kd ks ks.length) := by
  subst h
  by_cases hN : ks.length = 2
  · obtain ⟨x0, x1, rfl⟩ : ∃ x0 x1, ks = [x0, x1] := by
      match ks, hN with
      | [x0, x1], _ => exact ⟨_, _, rfl⟩
    simp [tkWhile, isIn, kidsLow, kidsHigh, fitsTo, fits]
  · have e1 : tkWhile ks = false := by simp [tkWhile, hN]
    have e2 : isIn (ks.length : Int) 2 2 = false := by simp [isIn]; omega
    show _ = (isIn (ks.length : Int) 2 2 && _)
    rw [e1, e2]
    rfl

set_option maxRecDepth 100000 in
set_option maxHeartbeats 3200000 in
theorem implNodeOk_while (b off N cap m : Nat) (ns : List Nd) (q : Nd) (w : World) (hl : N ≤ 1048576) (hR : NdR.Row w w.heap.size (.slice (some ⟨b, off, none⟩) N cap) ns) (hN : Hid (ns.length = N)) (hm : m < N) (hq : Hid (ns[m]'(by rw [hN.out]; exact hm) = q)) (hz : szNd q ≤ 1048576) (hcl : q.kind = 17) :
    Calls Tryz.prog 94 #[.slice (some ⟨b, off, none⟩) N cap, .int .i64 (m : Int)] w fun e w' => e = .returned (.bool (headOk q && kidsTo ns (m : Int) q q.kids.length)) ∧ Below w.heap.size w w' := by
  have hml : m < ns.length := by rw [hN.out]; exact hm
  have hkl : q.kids.length ≤ 1048576 := Nat.le_trans (le_szNd_kids q) hz
  have htl : q.name.size ≤ 1048576 := Nat.le_trans (le_szNd_name q) hz
  obtain ⟨b', off', ka, kc, e, hb, c0, c1, c2, c3, hK0⟩ := RowNd.at hR m hml
  cases e
  rw [hq.out] at c0 c1 c2 c3
  have cA : Hid (∀ W, Below w.heap.size w W → Calls Tryz.prog 145 #[.slice (some ⟨b, off, none⟩) N cap, .int .i64 (m : Int)] W fun e w' => AheadAns ns m q.kids W e w' ∧ Below W.heap.size W w') := fun W hW =>
    kindsAhead_any b off N cap m ns q W hl ((RowTy.Row.keep hR hW).up hW.size) hN hm hq hkl
  have HRes : Hid ((headOk q && kidsTo ns (m : Int) q q.kids.length) = (saysNone q.num q.name && ((decide (q.kids.length ≤ 12) && aheadTo (m : Int) q.kids q.kids.length) && tkWhile (kindsOf ns q.kids)))) :=
    nodeParts (by rw [hcl]; rfl) (parts_while _ _ _ hcl) (by rw [took_while q.kind _ hcl, kindsOf_len])
  obtain ⟨r, hr⟩ : ∃ r, Hid ((decide (q.kids.length ≤ 12) && aheadTo (m : Int) q.kids q.kids.length) = r) := ⟨_, (rfl : (decide (q.kids.length ≤ 12) && aheadTo (m : Int) q.kids q.kids.length) = _)⟩
  have HL : Hid (r = true → (kindsOf ns q.kids).length ≤ 12) := fun h => by
    rw [kindsOf_len]
    have := hr.out
    rw [h] at this
    simp at this
    exact this.1
  rw [hr.out] at HRes
  obtain ⟨ks, hks⟩ : ∃ ks, Hid (kindsOf ns q.kids = ks) := ⟨_, (rfl : kindsOf ns q.kids = kindsOf ns q.kids)⟩
  rw [hks.out] at HRes HL
  obtain ⟨res, hres⟩ : ∃ res, Hid ((headOk q && kidsTo ns (m : Int) q q.kids.length) = res) := ⟨_, (rfl : (headOk q && kidsTo ns (m : Int) q q.kids.length) = _)⟩
  rw [hres.out] at HRes ⊢
  obtain ⟨kd, nm, tx, kids⟩ := q
  simp only at c0 c1 c2 c3 HRes hcl htl hr hks
  obtain ⟨K, HK⟩ : ∃ K, Hid (kids.length = K) := ⟨_, (rfl : kids.length = kids.length)⟩
  rw [HK.out] at c3
  have cP : Hid (∀ W, Calls Tryz.prog 143 #[.agg #[.int .i64 kd, .int .i64 nm, .string tx, .slice ka K kc]] W fun e w' => e = .returned (.iface 193 (.agg #[.int .i64 kd, .int .i64 nm, .string tx, .slice ka K kc])) ∧ Below W.heap.size W w') := fun W => partOf_while kd nm tx _ W hcl
  obtain ⟨s, hs⟩ : ∃ s, Hid (saysNone nm tx = s) := ⟨_, (rfl : saysNone nm tx = saysNone nm tx)⟩
  have cS : Hid (∀ W, Calls Tryz.prog 144 #[.iface 193 (.agg #[.int .i64 kd, .int .i64 nm, .string tx, .slice ka K kc]), .agg #[.int .i64 kd, .int .i64 nm, .string tx, .slice ka K kc]] W fun e w' => e = .returned (.bool s) ∧ Below W.heap.size W w') := fun W => by
    rw [← hs.out]
    exact says_while kd nm tx _ W
  obtain ⟨tk, htk⟩ : ∃ tk, Hid (tkWhile ks = tk) := ⟨_, (rfl : tkWhile ks = tkWhile ks)⟩
  have cT : Hid (∀ W v, r = true → OwnsI W w.heap.size v ks → Calls Tryz.prog 242 #[.agg #[.int .i64 kd, .int .i64 nm, .string tx, .slice ka K kc], v] W fun e w' => e = .returned (.bool tk) ∧ Below W.heap.size W w') := fun W v h ho => by
    rw [← htk.out]
    exact takes_while W.heap.size kd nm tx _ v ks W (Nat.le_refl _) ho.row (HL.out h)
  rw [hs.out, htk.out] at HRes
  have cB : Hid (∀ W, Calls Tryz.prog 93 #[.slice (some ⟨b, off, none⟩) N cap, .int .i64 (m : Int)] W fun e w' => e = .returned (.bool true) ∧ w' = W) := fun W => by
    have := isPlace_any (some ⟨b, off, none⟩) N cap (m : Int) W
    rw [show isIn (m : Int) 0 ((N : Int) - 1) = true by simp [isIn]; omega] at this
    exact this
  have hm0 : (0 : Int) ≤ (m : Int) := by omega
  have hm1 : (m : Int) < (N : Int) := by omega
  clear hK0 hR hkl htl hz hcl
  go_enter Tryz.func94, Tryz.ntmps94
  go_wp2_with (go_at_call 93; refine Calls.mono (cB.out _) ?_; rintro e w1 ⟨rfl, h⟩; obtain rfl := h.symm)
  go_at_call 143
  refine Calls.mono (cP.out _) ?_
  rintro e w1 ⟨rfl, hb1⟩
  have d0 := (hb1.cell (p := ⟨b, off + m * 4, none⟩) hb).trans c0
  have d1 := (hb1.cell (p := ⟨b, off + m * 4 + 1, none⟩) hb).trans c1
  have d2 := (hb1.cell (p := ⟨b, off + m * 4 + 2, none⟩) hb).trans c2
  have d3 := (hb1.cell (p := ⟨b, off + m * 4 + 3, none⟩) hb).trans c3
  have HB1 : Hid (Below w.heap.size w w1) := hb1
  clear hb1 c0 c1 c2 c3 cP cB
  go_wp2_with fail
  go_at_call 144
  refine Calls.mono (cS.out _) ?_
  rintro e w2 ⟨rfl, hb2⟩
  have HB2 : Hid (Below w.heap.size w w2) := HB1.out.trans (hb2.mono HB1.out.size)
  clear hb2 d0 d1 d2 d3 cS HB1
  cases s
  · go_wp2
    go_ret
    exact ⟨by rw [HRes.out]; rfl, HB2.out⟩
  go_wp2_with fail
  go_at_call 145
  refine Calls.mono (cA.out _ HB2.out) ?_
  rintro e w3 ⟨hh, hb3⟩
  obtain ⟨v, r', rfl, hr', ho⟩ := hh.ex
  rw [hr.out] at hr'
  rw [hks.out] at ho
  obtain rfl := hr'
  have HB3 : Hid (Below w.heap.size w w3) := HB2.out.trans (hb3.mono HB2.out.size)
  have HO : Hid (r' = true → OwnsI w3 w.heap.size v ks) := fun h => OwnsR.base (ho h) (fun g hg => by have := (OwnsR.lt (ho h) g hg).1; have := HB2.out.size; omega)
  clear hb3 ho cA
  cases r'
  · go_wp2
    go_ret
    exact ⟨by rw [HRes.out]; rfl, HB3.out⟩
  go_wp2_with fail
  go_at_call 242
  refine Calls.mono (cT.out _ _ (by trivial) (HO.out (by trivial))) ?_
  rintro e w4 ⟨rfl, hb4⟩
  have HB4 : Hid (Below w.heap.size w w4) := HB3.out.trans (hb4.mono HB3.out.size)
  clear hb4
  go_wp2
  go_ret
  exact ⟨by rw [HRes.out]; rfl, HB4.out⟩

theorem parts_print (kd nm : Int) (tx : ByteArray) (h : kd = 18) : saysNone nm tx = headRest kd nm tx := by
  have hn := @nameOk_some tx
  unfold saysNone headRest
  have e1 : isNamed kd = false := by subst h; rfl
  rw [e1]
  subst h
  all_goals
    by_cases h0 : nm = 0
    · subst h0
      by_cases h2 : tx.size = 0
      · cases hk : nameOk tx <;> simp [isIn, h2]
        all_goals (try (have := hn hk; omega))
      · cases hk : nameOk tx <;> simp [isIn, h2]
        all_goals (try omega)
    · cases hk : nameOk tx <;> by_cases h2 : tx.size = 0 <;> simp [isIn, h0, h2]
      all_goals (try (have := hn hk; omega))
      all_goals (try omega)
theorem took_print (kd : Int) (ks : List Int) (h : kd = 18) : tkVal 1 ks = (isIn (ks.length : Int) (kidsLow kd) (kidsHigh kd) && fitsTo kd ks ks.length) := by
  subst h
  all_goals
    rw [fitsTo_whole (fits_val (by decide)) ks]
    unfold tkVal
    show _ = (isIn (ks.length : Int) 1 1 && _)
    congr 1
    rw [Bool.eq_iff_iff]
    simp [isIn]
    try omega

set_option maxRecDepth 100000 in
set_option maxHeartbeats 3200000 in
theorem implNodeOk_print (b off N cap m : Nat) (ns : List Nd) (q : Nd) (w : World) (hl : N ≤ 1048576) (hR : NdR.Row w w.heap.size (.slice (some ⟨b, off, none⟩) N cap) ns) (hN : Hid (ns.length = N)) (hm : m < N) (hq : Hid (ns[m]'(by rw [hN.out]; exact hm) = q)) (hz : szNd q ≤ 1048576) (hcl : q.kind = 18) :
    Calls Tryz.prog 94 #[.slice (some ⟨b, off, none⟩) N cap, .int .i64 (m : Int)] w fun e w' => e = .returned (.bool (headOk q && kidsTo ns (m : Int) q q.kids.length)) ∧ Below w.heap.size w w' := by
  have hml : m < ns.length := by rw [hN.out]; exact hm
  have hkl : q.kids.length ≤ 1048576 := Nat.le_trans (le_szNd_kids q) hz
  have htl : q.name.size ≤ 1048576 := Nat.le_trans (le_szNd_name q) hz
  obtain ⟨b', off', ka, kc, e, hb, c0, c1, c2, c3, hK0⟩ := RowNd.at hR m hml
  cases e
  rw [hq.out] at c0 c1 c2 c3
  have cA : Hid (∀ W, Below w.heap.size w W → Calls Tryz.prog 145 #[.slice (some ⟨b, off, none⟩) N cap, .int .i64 (m : Int)] W fun e w' => AheadAns ns m q.kids W e w' ∧ Below W.heap.size W w') := fun W hW =>
    kindsAhead_any b off N cap m ns q W hl ((RowTy.Row.keep hR hW).up hW.size) hN hm hq hkl
  have HRes : Hid ((headOk q && kidsTo ns (m : Int) q q.kids.length) = (saysNone q.num q.name && ((decide (q.kids.length ≤ 12) && aheadTo (m : Int) q.kids q.kids.length) && tkVal 1 (kindsOf ns q.kids)))) :=
    nodeParts (by rw [hcl]; rfl) (parts_print _ _ _ hcl) (by rw [took_print q.kind _ hcl, kindsOf_len])
  obtain ⟨r, hr⟩ : ∃ r, Hid ((decide (q.kids.length ≤ 12) && aheadTo (m : Int) q.kids q.kids.length) = r) := ⟨_, (rfl : (decide (q.kids.length ≤ 12) && aheadTo (m : Int) q.kids q.kids.length) = _)⟩
  have HL : Hid (r = true → (kindsOf ns q.kids).length ≤ 12) := fun h => by
    rw [kindsOf_len]
    have := hr.out
    rw [h] at this
    simp at this
    exact this.1
  rw [hr.out] at HRes
  obtain ⟨ks, hks⟩ : ∃ ks, Hid (kindsOf ns q.kids = ks) := ⟨_, (rfl : kindsOf ns q.kids = kindsOf ns q.kids)⟩
  rw [hks.out] at HRes HL
  obtain ⟨res, hres⟩ : ∃ res, Hid ((headOk q && kidsTo ns (m : Int) q q.kids.length) = res) := ⟨_, (rfl : (headOk q && kidsTo ns (m : Int) q q.kids.length) = _)⟩
  rw [hres.out] at HRes ⊢
  obtain ⟨kd, nm, tx, kids⟩ := q
  simp only at c0 c1 c2 c3 HRes hcl htl hr hks
  obtain ⟨K, HK⟩ : ∃ K, Hid (kids.length = K) := ⟨_, (rfl : kids.length = kids.length)⟩
  rw [HK.out] at c3
  have cP : Hid (∀ W, Calls Tryz.prog 143 #[.agg #[.int .i64 kd, .int .i64 nm, .string tx, .slice ka K kc]] W fun e w' => e = .returned (.iface 194 (.agg #[.int .i64 kd, .int .i64 nm, .string tx, .slice ka K kc])) ∧ Below W.heap.size W w') := fun W => partOf_print kd nm tx _ W hcl
  obtain ⟨s, hs⟩ : ∃ s, Hid (saysNone nm tx = s) := ⟨_, (rfl : saysNone nm tx = saysNone nm tx)⟩
  have cS : Hid (∀ W, Calls Tryz.prog 144 #[.iface 194 (.agg #[.int .i64 kd, .int .i64 nm, .string tx, .slice ka K kc]), .agg #[.int .i64 kd, .int .i64 nm, .string tx, .slice ka K kc]] W fun e w' => e = .returned (.bool s) ∧ Below W.heap.size W w') := fun W => by
    rw [← hs.out]
    exact says_print kd nm tx _ W
  obtain ⟨tk, htk⟩ : ∃ tk, Hid (tkVal 1 ks = tk) := ⟨_, (rfl : tkVal 1 ks = tkVal 1 ks)⟩
  have cT : Hid (∀ W v, r = true → OwnsI W w.heap.size v ks → Calls Tryz.prog 243 #[.agg #[.int .i64 kd, .int .i64 nm, .string tx, .slice ka K kc], v] W fun e w' => e = .returned (.bool tk) ∧ Below W.heap.size W w') := fun W v h ho => by
    rw [← htk.out]
    exact takes_print W.heap.size kd nm tx _ v ks W (Nat.le_refl _) ho.row (HL.out h)
  rw [hs.out, htk.out] at HRes
  have cB : Hid (∀ W, Calls Tryz.prog 93 #[.slice (some ⟨b, off, none⟩) N cap, .int .i64 (m : Int)] W fun e w' => e = .returned (.bool true) ∧ w' = W) := fun W => by
    have := isPlace_any (some ⟨b, off, none⟩) N cap (m : Int) W
    rw [show isIn (m : Int) 0 ((N : Int) - 1) = true by simp [isIn]; omega] at this
    exact this
  have hm0 : (0 : Int) ≤ (m : Int) := by omega
  have hm1 : (m : Int) < (N : Int) := by omega
  clear hK0 hR hkl htl hz hcl
  go_enter Tryz.func94, Tryz.ntmps94
  go_wp2_with (go_at_call 93; refine Calls.mono (cB.out _) ?_; rintro e w1 ⟨rfl, h⟩; obtain rfl := h.symm)
  go_at_call 143
  refine Calls.mono (cP.out _) ?_
  rintro e w1 ⟨rfl, hb1⟩
  have d0 := (hb1.cell (p := ⟨b, off + m * 4, none⟩) hb).trans c0
  have d1 := (hb1.cell (p := ⟨b, off + m * 4 + 1, none⟩) hb).trans c1
  have d2 := (hb1.cell (p := ⟨b, off + m * 4 + 2, none⟩) hb).trans c2
  have d3 := (hb1.cell (p := ⟨b, off + m * 4 + 3, none⟩) hb).trans c3
  have HB1 : Hid (Below w.heap.size w w1) := hb1
  clear hb1 c0 c1 c2 c3 cP cB
  go_wp2_with fail
  go_at_call 144
  refine Calls.mono (cS.out _) ?_
  rintro e w2 ⟨rfl, hb2⟩
  have HB2 : Hid (Below w.heap.size w w2) := HB1.out.trans (hb2.mono HB1.out.size)
  clear hb2 d0 d1 d2 d3 cS HB1
  cases s
  · go_wp2
    go_ret
    exact ⟨by rw [HRes.out]; rfl, HB2.out⟩
  go_wp2_with fail
  go_at_call 145
  refine Calls.mono (cA.out _ HB2.out) ?_
  rintro e w3 ⟨hh, hb3⟩
  obtain ⟨v, r', rfl, hr', ho⟩ := hh.ex
  rw [hr.out] at hr'
  rw [hks.out] at ho
  obtain rfl := hr'
  have HB3 : Hid (Below w.heap.size w w3) := HB2.out.trans (hb3.mono HB2.out.size)
  have HO : Hid (r' = true → OwnsI w3 w.heap.size v ks) := fun h => OwnsR.base (ho h) (fun g hg => by have := (OwnsR.lt (ho h) g hg).1; have := HB2.out.size; omega)
  clear hb3 ho cA
  cases r'
  · go_wp2
    go_ret
    exact ⟨by rw [HRes.out]; rfl, HB3.out⟩
  go_wp2_with fail
  go_at_call 243
  refine Calls.mono (cT.out _ _ (by trivial) (HO.out (by trivial))) ?_
  rintro e w4 ⟨rfl, hb4⟩
  have HB4 : Hid (Below w.heap.size w w4) := HB3.out.trans (hb4.mono HB3.out.size)
  clear hb4
  go_wp2
  go_ret
  exact ⟨by rw [HRes.out]; rfl, HB4.out⟩

theorem parts_do (kd nm : Int) (tx : ByteArray) (h : kd = 19) : saysNone nm tx = headRest kd nm tx := by
  have hn := @nameOk_some tx
  unfold saysNone headRest
  have e1 : isNamed kd = false := by subst h; rfl
  rw [e1]
  subst h
  all_goals
    by_cases h0 : nm = 0
    · subst h0
      by_cases h2 : tx.size = 0
      · cases hk : nameOk tx <;> simp [isIn, h2]
        all_goals (try (have := hn hk; omega))
      · cases hk : nameOk tx <;> simp [isIn, h2]
        all_goals (try omega)
    · cases hk : nameOk tx <;> by_cases h2 : tx.size = 0 <;> simp [isIn, h0, h2]
      all_goals (try (have := hn hk; omega))
      all_goals (try omega)
theorem took_do (kd : Int) (ks : List Int) (h : kd = 19) : tkDo ks = (isIn (ks.length : Int) (kidsLow kd) (kidsHigh kd) && fitsTo kd ks ks.length) := by
  subst h
  by_cases hN : ks.length = 1
  · obtain ⟨x0, rfl⟩ : ∃ x0, ks = [x0] := by
      match ks, hN with
      | [x0], _ => exact ⟨_, rfl⟩
    simp [tkDo, isIn, kidsLow, kidsHigh, fitsTo, fits]
  · have e1 : tkDo ks = false := by simp [tkDo, hN]
    have e2 : isIn (ks.length : Int) 1 1 = false := by simp [isIn]; omega
    show _ = (isIn (ks.length : Int) 1 1 && _)
    rw [e1, e2]
    rfl

set_option maxRecDepth 100000 in
set_option maxHeartbeats 3200000 in
theorem implNodeOk_do (b off N cap m : Nat) (ns : List Nd) (q : Nd) (w : World) (hl : N ≤ 1048576) (hR : NdR.Row w w.heap.size (.slice (some ⟨b, off, none⟩) N cap) ns) (hN : Hid (ns.length = N)) (hm : m < N) (hq : Hid (ns[m]'(by rw [hN.out]; exact hm) = q)) (hz : szNd q ≤ 1048576) (hcl : q.kind = 19) :
    Calls Tryz.prog 94 #[.slice (some ⟨b, off, none⟩) N cap, .int .i64 (m : Int)] w fun e w' => e = .returned (.bool (headOk q && kidsTo ns (m : Int) q q.kids.length)) ∧ Below w.heap.size w w' := by
  have hml : m < ns.length := by rw [hN.out]; exact hm
  have hkl : q.kids.length ≤ 1048576 := Nat.le_trans (le_szNd_kids q) hz
  have htl : q.name.size ≤ 1048576 := Nat.le_trans (le_szNd_name q) hz
  obtain ⟨b', off', ka, kc, e, hb, c0, c1, c2, c3, hK0⟩ := RowNd.at hR m hml
  cases e
  rw [hq.out] at c0 c1 c2 c3
  have cA : Hid (∀ W, Below w.heap.size w W → Calls Tryz.prog 145 #[.slice (some ⟨b, off, none⟩) N cap, .int .i64 (m : Int)] W fun e w' => AheadAns ns m q.kids W e w' ∧ Below W.heap.size W w') := fun W hW =>
    kindsAhead_any b off N cap m ns q W hl ((RowTy.Row.keep hR hW).up hW.size) hN hm hq hkl
  have HRes : Hid ((headOk q && kidsTo ns (m : Int) q q.kids.length) = (saysNone q.num q.name && ((decide (q.kids.length ≤ 12) && aheadTo (m : Int) q.kids q.kids.length) && tkDo (kindsOf ns q.kids)))) :=
    nodeParts (by rw [hcl]; rfl) (parts_do _ _ _ hcl) (by rw [took_do q.kind _ hcl, kindsOf_len])
  obtain ⟨r, hr⟩ : ∃ r, Hid ((decide (q.kids.length ≤ 12) && aheadTo (m : Int) q.kids q.kids.length) = r) := ⟨_, (rfl : (decide (q.kids.length ≤ 12) && aheadTo (m : Int) q.kids q.kids.length) = _)⟩
  have HL : Hid (r = true → (kindsOf ns q.kids).length ≤ 12) := fun h => by
    rw [kindsOf_len]
    have := hr.out
    rw [h] at this
    simp at this
    exact this.1
  rw [hr.out] at HRes
  obtain ⟨ks, hks⟩ : ∃ ks, Hid (kindsOf ns q.kids = ks) := ⟨_, (rfl : kindsOf ns q.kids = kindsOf ns q.kids)⟩
  rw [hks.out] at HRes HL
  obtain ⟨res, hres⟩ : ∃ res, Hid ((headOk q && kidsTo ns (m : Int) q q.kids.length) = res) := ⟨_, (rfl : (headOk q && kidsTo ns (m : Int) q q.kids.length) = _)⟩
  rw [hres.out] at HRes ⊢
  obtain ⟨kd, nm, tx, kids⟩ := q
  simp only at c0 c1 c2 c3 HRes hcl htl hr hks
  obtain ⟨K, HK⟩ : ∃ K, Hid (kids.length = K) := ⟨_, (rfl : kids.length = kids.length)⟩
  rw [HK.out] at c3
  have cP : Hid (∀ W, Calls Tryz.prog 143 #[.agg #[.int .i64 kd, .int .i64 nm, .string tx, .slice ka K kc]] W fun e w' => e = .returned (.iface 195 (.agg #[.int .i64 kd, .int .i64 nm, .string tx, .slice ka K kc])) ∧ Below W.heap.size W w') := fun W => partOf_do kd nm tx _ W hcl
  obtain ⟨s, hs⟩ : ∃ s, Hid (saysNone nm tx = s) := ⟨_, (rfl : saysNone nm tx = saysNone nm tx)⟩
  have cS : Hid (∀ W, Calls Tryz.prog 144 #[.iface 195 (.agg #[.int .i64 kd, .int .i64 nm, .string tx, .slice ka K kc]), .agg #[.int .i64 kd, .int .i64 nm, .string tx, .slice ka K kc]] W fun e w' => e = .returned (.bool s) ∧ Below W.heap.size W w') := fun W => by
    rw [← hs.out]
    exact says_do kd nm tx _ W
  obtain ⟨tk, htk⟩ : ∃ tk, Hid (tkDo ks = tk) := ⟨_, (rfl : tkDo ks = tkDo ks)⟩
  have cT : Hid (∀ W v, r = true → OwnsI W w.heap.size v ks → Calls Tryz.prog 244 #[.agg #[.int .i64 kd, .int .i64 nm, .string tx, .slice ka K kc], v] W fun e w' => e = .returned (.bool tk) ∧ Below W.heap.size W w') := fun W v h ho => by
    rw [← htk.out]
    exact takes_do W.heap.size kd nm tx _ v ks W (Nat.le_refl _) ho.row (HL.out h)
  rw [hs.out, htk.out] at HRes
  have cB : Hid (∀ W, Calls Tryz.prog 93 #[.slice (some ⟨b, off, none⟩) N cap, .int .i64 (m : Int)] W fun e w' => e = .returned (.bool true) ∧ w' = W) := fun W => by
    have := isPlace_any (some ⟨b, off, none⟩) N cap (m : Int) W
    rw [show isIn (m : Int) 0 ((N : Int) - 1) = true by simp [isIn]; omega] at this
    exact this
  have hm0 : (0 : Int) ≤ (m : Int) := by omega
  have hm1 : (m : Int) < (N : Int) := by omega
  clear hK0 hR hkl htl hz hcl
  go_enter Tryz.func94, Tryz.ntmps94
  go_wp2_with (go_at_call 93; refine Calls.mono (cB.out _) ?_; rintro e w1 ⟨rfl, h⟩; obtain rfl := h.symm)
  go_at_call 143
  refine Calls.mono (cP.out _) ?_
  rintro e w1 ⟨rfl, hb1⟩
  have d0 := (hb1.cell (p := ⟨b, off + m * 4, none⟩) hb).trans c0
  have d1 := (hb1.cell (p := ⟨b, off + m * 4 + 1, none⟩) hb).trans c1
  have d2 := (hb1.cell (p := ⟨b, off + m * 4 + 2, none⟩) hb).trans c2
  have d3 := (hb1.cell (p := ⟨b, off + m * 4 + 3, none⟩) hb).trans c3
  have HB1 : Hid (Below w.heap.size w w1) := hb1
  clear hb1 c0 c1 c2 c3 cP cB
  go_wp2_with fail
  go_at_call 144
  refine Calls.mono (cS.out _) ?_
  rintro e w2 ⟨rfl, hb2⟩
  have HB2 : Hid (Below w.heap.size w w2) := HB1.out.trans (hb2.mono HB1.out.size)
  clear hb2 d0 d1 d2 d3 cS HB1
  cases s
  · go_wp2
    go_ret
    exact ⟨by rw [HRes.out]; rfl, HB2.out⟩
  go_wp2_with fail
  go_at_call 145
  refine Calls.mono (cA.out _ HB2.out) ?_
  rintro e w3 ⟨hh, hb3⟩
  obtain ⟨v, r', rfl, hr', ho⟩ := hh.ex
  rw [hr.out] at hr'
  rw [hks.out] at ho
  obtain rfl := hr'
  have HB3 : Hid (Below w.heap.size w w3) := HB2.out.trans (hb3.mono HB2.out.size)
  have HO : Hid (r' = true → OwnsI w3 w.heap.size v ks) := fun h => OwnsR.base (ho h) (fun g hg => by have := (OwnsR.lt (ho h) g hg).1; have := HB2.out.size; omega)
  clear hb3 ho cA
  cases r'
  · go_wp2
    go_ret
    exact ⟨by rw [HRes.out]; rfl, HB3.out⟩
  go_wp2_with fail
  go_at_call 244
  refine Calls.mono (cT.out _ _ (by trivial) (HO.out (by trivial))) ?_
  rintro e w4 ⟨rfl, hb4⟩
  have HB4 : Hid (Below w.heap.size w w4) := HB3.out.trans (hb4.mono HB3.out.size)
  clear hb4
  go_wp2
  go_ret
  exact ⟨by rw [HRes.out]; rfl, HB4.out⟩

theorem parts_block (kd nm : Int) (tx : ByteArray) (h : kd = 20) : saysNone nm tx = headRest kd nm tx := by
  have hn := @nameOk_some tx
  unfold saysNone headRest
  have e1 : isNamed kd = false := by subst h; rfl
  rw [e1]
  subst h
  all_goals
    by_cases h0 : nm = 0
    · subst h0
      by_cases h2 : tx.size = 0
      · cases hk : nameOk tx <;> simp [isIn, h2]
        all_goals (try (have := hn hk; omega))
      · cases hk : nameOk tx <;> simp [isIn, h2]
        all_goals (try omega)
    · cases hk : nameOk tx <;> by_cases h2 : tx.size = 0 <;> simp [isIn, h0, h2]
      all_goals (try (have := hn hk; omega))
      all_goals (try omega)
theorem took_block (kd : Int) (ks : List Int) (h : kd = 20) : tkBlk ks = (isIn (ks.length : Int) (kidsLow kd) (kidsHigh kd) && fitsTo kd ks ks.length) := by
  subst h
  all_goals
    rw [fitsTo_whole fits_stm ks]
    unfold tkBlk
    show _ = (isIn (ks.length : Int) 0 12 && _)
    congr 1
    rw [Bool.eq_iff_iff]
    simp [isIn]
    try omega

set_option maxRecDepth 100000 in
set_option maxHeartbeats 3200000 in
theorem implNodeOk_block (b off N cap m : Nat) (ns : List Nd) (q : Nd) (w : World) (hl : N ≤ 1048576) (hR : NdR.Row w w.heap.size (.slice (some ⟨b, off, none⟩) N cap) ns) (hN : Hid (ns.length = N)) (hm : m < N) (hq : Hid (ns[m]'(by rw [hN.out]; exact hm) = q)) (hz : szNd q ≤ 1048576) (hcl : q.kind = 20) :
    Calls Tryz.prog 94 #[.slice (some ⟨b, off, none⟩) N cap, .int .i64 (m : Int)] w fun e w' => e = .returned (.bool (headOk q && kidsTo ns (m : Int) q q.kids.length)) ∧ Below w.heap.size w w' := by
  have hml : m < ns.length := by rw [hN.out]; exact hm
  have hkl : q.kids.length ≤ 1048576 := Nat.le_trans (le_szNd_kids q) hz
  have htl : q.name.size ≤ 1048576 := Nat.le_trans (le_szNd_name q) hz
  obtain ⟨b', off', ka, kc, e, hb, c0, c1, c2, c3, hK0⟩ := RowNd.at hR m hml
  cases e
  rw [hq.out] at c0 c1 c2 c3
  have cA : Hid (∀ W, Below w.heap.size w W → Calls Tryz.prog 145 #[.slice (some ⟨b, off, none⟩) N cap, .int .i64 (m : Int)] W fun e w' => AheadAns ns m q.kids W e w' ∧ Below W.heap.size W w') := fun W hW =>
    kindsAhead_any b off N cap m ns q W hl ((RowTy.Row.keep hR hW).up hW.size) hN hm hq hkl
  have HRes : Hid ((headOk q && kidsTo ns (m : Int) q q.kids.length) = (saysNone q.num q.name && ((decide (q.kids.length ≤ 12) && aheadTo (m : Int) q.kids q.kids.length) && tkBlk (kindsOf ns q.kids)))) :=
    nodeParts (by rw [hcl]; rfl) (parts_block _ _ _ hcl) (by rw [took_block q.kind _ hcl, kindsOf_len])
  obtain ⟨r, hr⟩ : ∃ r, Hid ((decide (q.kids.length ≤ 12) && aheadTo (m : Int) q.kids q.kids.length) = r) := ⟨_, (rfl : (decide (q.kids.length ≤ 12) && aheadTo (m : Int) q.kids q.kids.length) = _)⟩
  have HL : Hid (r = true → (kindsOf ns q.kids).length ≤ 12) := fun h => by
    rw [kindsOf_len]
    have := hr.out
    rw [h] at this
    simp at this
    exact this.1
  rw [hr.out] at HRes
  obtain ⟨ks, hks⟩ : ∃ ks, Hid (kindsOf ns q.kids = ks) := ⟨_, (rfl : kindsOf ns q.kids = kindsOf ns q.kids)⟩
  rw [hks.out] at HRes HL
  obtain ⟨res, hres⟩ : ∃ res, Hid ((headOk q && kidsTo ns (m : Int) q q.kids.length) = res) := ⟨_, (rfl : (headOk q && kidsTo ns (m : Int) q q.kids.length) = _)⟩
  rw [hres.out] at HRes ⊢
  obtain ⟨kd, nm, tx, kids⟩ := q
  simp only at c0 c1 c2 c3 HRes hcl htl hr hks
  obtain ⟨K, HK⟩ : ∃ K, Hid (kids.length = K) := ⟨_, (rfl : kids.length = kids.length)⟩
  rw [HK.out] at c3
  have cP : Hid (∀ W, Calls Tryz.prog 143 #[.agg #[.int .i64 kd, .int .i64 nm, .string tx, .slice ka K kc]] W fun e w' => e = .returned (.iface 196 (.agg #[.int .i64 kd, .int .i64 nm, .string tx, .slice ka K kc])) ∧ Below W.heap.size W w') := fun W => partOf_block kd nm tx _ W hcl
  obtain ⟨s, hs⟩ : ∃ s, Hid (saysNone nm tx = s) := ⟨_, (rfl : saysNone nm tx = saysNone nm tx)⟩
  have cS : Hid (∀ W, Calls Tryz.prog 144 #[.iface 196 (.agg #[.int .i64 kd, .int .i64 nm, .string tx, .slice ka K kc]), .agg #[.int .i64 kd, .int .i64 nm, .string tx, .slice ka K kc]] W fun e w' => e = .returned (.bool s) ∧ Below W.heap.size W w') := fun W => by
    rw [← hs.out]
    exact says_block kd nm tx _ W
  obtain ⟨tk, htk⟩ : ∃ tk, Hid (tkBlk ks = tk) := ⟨_, (rfl : tkBlk ks = tkBlk ks)⟩
  have cT : Hid (∀ W v, r = true → OwnsI W w.heap.size v ks → Calls Tryz.prog 245 #[.agg #[.int .i64 kd, .int .i64 nm, .string tx, .slice ka K kc], v] W fun e w' => e = .returned (.bool tk) ∧ Below W.heap.size W w') := fun W v h ho => by
    rw [← htk.out]
    exact takes_block W.heap.size kd nm tx _ v ks W (Nat.le_refl _) ho.row (HL.out h)
  rw [hs.out, htk.out] at HRes
  have cB : Hid (∀ W, Calls Tryz.prog 93 #[.slice (some ⟨b, off, none⟩) N cap, .int .i64 (m : Int)] W fun e w' => e = .returned (.bool true) ∧ w' = W) := fun W => by
    have := isPlace_any (some ⟨b, off, none⟩) N cap (m : Int) W
    rw [show isIn (m : Int) 0 ((N : Int) - 1) = true by simp [isIn]; omega] at this
    exact this
  have hm0 : (0 : Int) ≤ (m : Int) := by omega
  have hm1 : (m : Int) < (N : Int) := by omega
  clear hK0 hR hkl htl hz hcl
  go_enter Tryz.func94, Tryz.ntmps94
  go_wp2_with (go_at_call 93; refine Calls.mono (cB.out _) ?_; rintro e w1 ⟨rfl, h⟩; obtain rfl := h.symm)
  go_at_call 143
  refine Calls.mono (cP.out _) ?_
  rintro e w1 ⟨rfl, hb1⟩
  have d0 := (hb1.cell (p := ⟨b, off + m * 4, none⟩) hb).trans c0
  have d1 := (hb1.cell (p := ⟨b, off + m * 4 + 1, none⟩) hb).trans c1
  have d2 := (hb1.cell (p := ⟨b, off + m * 4 + 2, none⟩) hb).trans c2
  have d3 := (hb1.cell (p := ⟨b, off + m * 4 + 3, none⟩) hb).trans c3
  have HB1 : Hid (Below w.heap.size w w1) := hb1
  clear hb1 c0 c1 c2 c3 cP cB
  go_wp2_with fail
  go_at_call 144
  refine Calls.mono (cS.out _) ?_
  rintro e w2 ⟨rfl, hb2⟩
  have HB2 : Hid (Below w.heap.size w w2) := HB1.out.trans (hb2.mono HB1.out.size)
  clear hb2 d0 d1 d2 d3 cS HB1
  cases s
  · go_wp2
    go_ret
    exact ⟨by rw [HRes.out]; rfl, HB2.out⟩
  go_wp2_with fail
  go_at_call 145
  refine Calls.mono (cA.out _ HB2.out) ?_
  rintro e w3 ⟨hh, hb3⟩
  obtain ⟨v, r', rfl, hr', ho⟩ := hh.ex
  rw [hr.out] at hr'
  rw [hks.out] at ho
  obtain rfl := hr'
  have HB3 : Hid (Below w.heap.size w w3) := HB2.out.trans (hb3.mono HB2.out.size)
  have HO : Hid (r' = true → OwnsI w3 w.heap.size v ks) := fun h => OwnsR.base (ho h) (fun g hg => by have := (OwnsR.lt (ho h) g hg).1; have := HB2.out.size; omega)
  clear hb3 ho cA
  cases r'
  · go_wp2
    go_ret
    exact ⟨by rw [HRes.out]; rfl, HB3.out⟩
  go_wp2_with fail
  go_at_call 245
  refine Calls.mono (cT.out _ _ (by trivial) (HO.out (by trivial))) ?_
  rintro e w4 ⟨rfl, hb4⟩
  have HB4 : Hid (Below w.heap.size w w4) := HB3.out.trans (hb4.mono HB3.out.size)
  clear hb4
  go_wp2
  go_ret
  exact ⟨by rw [HRes.out]; rfl, HB4.out⟩


end Go.Proofs.YtbanmldmdoedkaaGreatDoor
