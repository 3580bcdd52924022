/-
  Chapter 4, in the model: which kinds are values, statements, named; how many kids a kind has, and which fit.
  NodeOk, in the model: what it answers at every row of nodes and every place.
-/
import Derived.Test.YtbanmldmdoedkaaGreatDoorNa
import Derived.Test.YtbanmldmdoedkaaGreatDoorPa
import Derived.Test.YtbanmldmdoedkaaGreatDoorRa
import Derived.Handy
import Derived.BigQuiet
import Derived.Deep.QuietTactic
import Derived.Deep.RegionHeld3
import Derived.Deep.DeepCutAuto
import Derived.Deep.CutRange
namespace Go.Proofs.YtbanmldmdoedkaaGreatDoor
open Go.RowKit

theorem l01In_is (x a b : Int) (w : World) :
    Calls Tryz.prog 63 #[.int .i64 x, .int .i64 a, .int .i64 b] w fun e w' => e = .returned (.bool (isIn x a b)) ∧ w' = w := by
  by_cases h : a ≤ x ∧ x ≤ b
  · have e : isIn x a b = true := by simp [isIn, h]
    rw [e]
    exact l01In_yes x a b w h.1 h.2
  · have e : isIn x a b = false := by
      simp only [isIn, Bool.and_eq_false_iff, decide_eq_false_iff_not]
      omega
    rw [e]
    exact l01In_no x a b w (by omega)

theorem l04Value_is (k : Int) (w : World) :
    Calls Tryz.prog 53 #[.int .i64 k] w fun e w' => e = .returned (.bool (isVal k)) ∧ w' = w := by
  have c := fun W => l01In_is k 1 12 W
  obtain ⟨b, hb⟩ : ∃ b, Hid (isIn k 1 12 = b) := ⟨_, (rfl : isIn k 1 12 = isIn k 1 12)⟩
  rw [hb.out] at c
  have hv : Hid (isVal k = b) := hb
  go_enter Tryz.func53, Tryz.ntmps53
  go_wp2_with (go_at_call 63; refine (c _).mono ?_; rintro e w1 ⟨rfl, rfl⟩)
  go_ret
  exact ⟨by rw [hv.out]; rfl, rfl⟩

theorem l04Statement_is (k : Int) (w : World) :
    Calls Tryz.prog 183 #[.int .i64 k] w fun e w' => e = .returned (.bool (isStm k)) ∧ w' = w := by
  have c := fun W => l01In_is k 13 19 W
  obtain ⟨b, hb⟩ : ∃ b, Hid (isIn k 13 19 = b) := ⟨_, (rfl : isIn k 13 19 = isIn k 13 19)⟩
  rw [hb.out] at c
  have hv : Hid (isStm k = b) := hb
  go_enter Tryz.func183, Tryz.ntmps183
  go_wp2_with (go_at_call 63; refine (c _).mono ?_; rintro e w1 ⟨rfl, rfl⟩)
  go_ret
  exact ⟨by rw [hv.out]; rfl, rfl⟩

set_option maxHeartbeats 800000 in
theorem l04Named_is (k : Int) (w : World) :
    Calls Tryz.prog 157 #[.int .i64 k] w fun e w' => e = .returned (.bool (isNamed k)) ∧ w' = w := by
  by_cases h : k = 2 ∨ k = 3 ∨ k = 4 ∨ k = 5 ∨ k = 6 ∨ k = 12 ∨ k = 13 ∨ k = 14 ∨ k = 15
  · have HN : Hid (isNamed k = true) := by show _ = _; unfold isNamed; simpa using h
    rcases h with rfl | rfl | rfl | rfl | rfl | rfl | rfl | rfl | rfl <;> go_enter Tryz.func157, Tryz.ntmps157 <;> go_wp2 <;> go_ret <;> exact ⟨by rw [HN.out]; rfl, rfl⟩
  · have HN : Hid (isNamed k = false) := by show _ = _; unfold isNamed; simpa using h
    have a1 : (k == 2) = false := by simp; omega
    have a2 : (k == 3) = false := by simp; omega
    have a3 : (k == 4) = false := by simp; omega
    have a4 : (k == 5) = false := by simp; omega
    have a5 : (k == 6) = false := by simp; omega
    have a6 : (k == 12) = false := by simp; omega
    have a7 : (k == 13) = false := by simp; omega
    have a8 : (k == 14) = false := by simp; omega
    have a9 : (k == 15) = false := by simp; omega
    clear h
    go_enter Tryz.func157, Tryz.ntmps157
    go_wp2
    go_ret
    exact ⟨by rw [HN.out]; rfl, rfl⟩

set_option maxHeartbeats 1600000 in
theorem l04Kids_is (k : Int) (w : World) :
    Calls Tryz.prog 156 #[.int .i64 k] w fun e w' => e = .returned (.tuple #[.int .i64 (kidsLow k), .int .i64 (kidsHigh k)]) ∧ w' = w := by
  by_cases h : k = 8 ∨ k = 9 ∨ k = 10 ∨ k = 11 ∨ k = 12 ∨ k = 13 ∨ k = 14 ∨ k = 15 ∨ k = 16 ∨ k = 17 ∨ k = 18 ∨ k = 19 ∨ k = 20
  · rcases h with rfl | rfl | rfl | rfl | rfl | rfl | rfl | rfl | rfl | rfl | rfl | rfl | rfl <;> go_enter Tryz.func156, Tryz.ntmps156 <;> go_wp2 <;> go_ret2 <;> exact ⟨rfl, rfl⟩
  · have HL : Hid (kidsLow k = 0) := by show _ = _; unfold kidsLow; repeat' (rw [if_neg (by omega)])
    have HH : Hid (kidsHigh k = 0) := by show _ = _; unfold kidsHigh; repeat' (rw [if_neg (by omega)])
    have a1 : (k == 8) = false := by simp; omega
    have a2 : (k == 9) = false := by simp; omega
    have a3 : (k == 10) = false := by simp; omega
    have a4 : (k == 11) = false := by simp; omega
    have a5 : (k == 12) = false := by simp; omega
    have a6 : (k == 13) = false := by simp; omega
    have a7 : (k == 14) = false := by simp; omega
    have a8 : (k == 15) = false := by simp; omega
    have a9 : (k == 16) = false := by simp; omega
    have b1 : (k == 17) = false := by simp; omega
    have b2 : (k == 18) = false := by simp; omega
    have b3 : (k == 19) = false := by simp; omega
    have b4 : (k == 20) = false := by simp; omega
    clear h
    rw [HL.out, HH.out]
    go_enter Tryz.func156, Tryz.ntmps156
    go_wp2
    go_ret2
    exact ⟨rfl, rfl⟩

set_option maxHeartbeats 1600000 in
theorem l04Fits_is (k i kid : Int) (w : World) :
    Calls Tryz.prog 158 #[.int .i64 k, .int .i64 i, .int .i64 kid] w fun e w' => e = .returned (.bool (fits k i kid)) ∧ w' = w := by
  have cv := fun W => l04Value_is kid W
  have cs := fun W => l04Statement_is kid W
  obtain ⟨bv, hbv⟩ : ∃ b, Hid (isVal kid = b) := ⟨_, (rfl : isVal kid = isVal kid)⟩
  obtain ⟨bs, hbs⟩ : ∃ b, Hid (isStm kid = b) := ⟨_, (rfl : isStm kid = isStm kid)⟩
  rw [hbv.out] at cv
  rw [hbs.out] at cs
  obtain ⟨f, hf⟩ : ∃ f, Hid (fits k i kid = f) := ⟨_, (rfl : fits k i kid = fits k i kid)⟩
  have HF := hf.out
  rw [HF]
  unfold fits at HF
  rw [hbv.out, hbs.out] at HF
  by_cases h20 : k = 20
  · rw [if_pos h20] at HF
    subst h20 HF
    go_enter Tryz.func158, Tryz.ntmps158
    go_wp2_with (go_at_call 183; refine (cs _).mono ?_; rintro e w1 ⟨rfl, rfl⟩)
    go_ret
    exact ⟨rfl, rfl⟩
  rw [if_neg h20] at HF
  have a1 : (k == 20) = false := by simpa using h20
  by_cases h67 : (k = 16 ∨ k = 17) ∧ 0 < i
  · rw [if_pos h67] at HF
    obtain ⟨h, hi⟩ := h67
    cases f
    · have hk : (kid == 20) = false := by simpa using HF
      rcases h with rfl | rfl <;> go_enter Tryz.func158, Tryz.ntmps158 <;> go_wp2 <;> go_ret <;> exact ⟨rfl, rfl⟩
    · have hk : kid = 20 := by simpa using HF
      subst hk
      rcases h with rfl | rfl <;> go_enter Tryz.func158, Tryz.ntmps158 <;> go_wp2 <;> go_ret <;> exact ⟨rfl, rfl⟩
  rw [if_neg h67] at HF
  by_cases h19 : k = 19
  · rw [if_pos h19] at HF
    subst h19
    cases f
    · have hk : (kid == 12) = false := by simpa using HF
      go_enter Tryz.func158, Tryz.ntmps158
      go_wp2
      go_ret
      exact ⟨rfl, rfl⟩
    · have hk : kid = 12 := by simpa using HF
      subst hk
      go_enter Tryz.func158, Tryz.ntmps158
      go_wp2
      go_ret
      exact ⟨rfl, rfl⟩
  rw [if_neg h19] at HF
  subst HF
  have a2 : (k == 19) = false := by simpa using h19
  by_cases h : k = 16 ∨ k = 17
  · have hi : ¬ 0 < i := fun e => h67 ⟨h, e⟩
    clear h67 a2 a1 h20 h19
    rcases h with rfl | rfl
    · go_enter Tryz.func158, Tryz.ntmps158
      go_wp2_with (go_at_call 53; refine (cv _).mono ?_; rintro e w1 ⟨rfl, rfl⟩)
      go_ret
      exact ⟨rfl, rfl⟩
    · go_enter Tryz.func158, Tryz.ntmps158
      go_wp2_with (go_at_call 53; refine (cv _).mono ?_; rintro e w1 ⟨rfl, rfl⟩)
      go_ret
      exact ⟨rfl, rfl⟩
  · have a3 : (k == 16) = false := by simp; omega
    have a4 : (k == 17) = false := by simp; omega
    clear h h67
    go_enter Tryz.func158, Tryz.ntmps158
    go_wp2_with (go_at_call 53; refine (cv _).mono ?_; rintro e w1 ⟨rfl, rfl⟩)
    go_ret
    exact ⟨rfl, rfl⟩

end Go.Proofs.YtbanmldmdoedkaaGreatDoor

namespace Go.Proofs.YtbanmldmdoedkaaGreatDoor
open Go.RowKit

theorem isIn_yes {x a b : Int} (h1 : a ≤ x) (h2 : x ≤ b) : isIn x a b = true := by simp [isIn, h1, h2]
theorem isIn_no {x a b : Int} (h : x < a ∨ b < x) : isIn x a b = false := by
  simp only [isIn, Bool.and_eq_false_iff, decide_eq_false_iff_not]
  omega
theorem isIn_cases (x a b : Int) : (isIn x a b = false ∧ (x < a ∨ b < x)) ∨ (isIn x a b = true ∧ a ≤ x ∧ x ≤ b) := by
  by_cases h : a ≤ x ∧ x ≤ b
  · exact .inr ⟨isIn_yes h.1 h.2, h⟩
  · exact .inl ⟨isIn_no (by omega), by omega⟩

theorem specNodeOk_out (a : Option Addr) (N cap : Nat) (ns : List Nd) (k : Int) (w : World) (hN : Hid (ns.length = N)) (hl : N ≤ 1048576) (h : k < 0 ∨ (N : Int) - 1 < k) :
    Calls Tryz.prog 109 #[.slice a N cap, .int .i64 k] w fun e w' => e = .returned (.bool (nodeOk ns k)) ∧ w' = w := by
  have HE : Hid (nodeOk ns k = false) := by
    show _ = _
    unfold nodeOk
    rw [hN.out, isIn_no h]
    rfl
  go_enter Tryz.func109, Tryz.ntmps109
  go_wp2_with (go_at_call 63; refine (l01In_no _ _ _ _ h).mono ?_; rintro e w1 ⟨rfl, rfl⟩)
  go_ret
  exact ⟨by rw [HE.out]; rfl, rfl⟩

/-- What is known of one node of a row while it is looked at. -/
structure At (w : World) (N : Nat) (m : Nat) (b off : Nat) (q : Nd) (ka : Option Addr) (kc : Nat) : Prop where
  lt : m < N
  c0 : w.cell? ⟨b, off + m * 4, none⟩ = some (.int .i64 q.kind)
  c1 : w.cell? ⟨b, off + m * 4 + 1, none⟩ = some (.int .i64 q.num)
  c2 : w.cell? ⟨b, off + m * 4 + 2, none⟩ = some (.string q.name)
  c3 : w.cell? ⟨b, off + m * 4 + 3, none⟩ = some (.slice ka q.kids.length kc)

theorem below_drewN {B : Nat} {a w : World} (h : Below B a w) (n : Nat) : Below B a (w.drewN n) := h.trans ⟨rfl, rfl, rfl, Nat.le_refl _, fun _ _ => rfl⟩
theorem take_has {ks : List Int} {t : Nat} {c : Int} (ht : t ≤ ks.length) (h : ∀ z, (hz : z < ks.length) → z < t → ¬ ks[z] = c) : (ks.take t).contains c = false := by
  rw [← Bool.not_eq_true, List.contains_iff_mem]
  intro hm
  obtain ⟨z, hz, e⟩ := List.getElem_of_mem hm
  rw [List.getElem_take] at e
  have : z < t := by simp at hz; omega
  exact h z (by omega) this e
theorem take_at {ks : List Int} {t z : Nat} {c : Int} (ht : t ≤ ks.length) (hz : z < t) (e : ks[z]'(by omega) = c) : (ks.take t).contains c = true := by
  rw [List.contains_iff_mem, ← e]
  have hl : z < (ks.take t).length := by simp; omega
  rw [← List.getElem_take (h := hl)]
  exact List.getElem_mem hl

theorem empty_list : (⟨#[]⟩ : ByteArray).toList = [] := by rw [ByteArray.toList_eq]
theorem name_some {tx : ByteArray} (h : ¬ tx.size = 0) : (tx.toList == (⟨#[]⟩ : ByteArray).toList) = false := by
  rw [empty_list, ByteArray.toList_eq, beq_eq_false_iff_ne]
  intro e
  exact h (by rw [(show tx.size = tx.data.toList.length from rfl), e]; rfl)

set_option maxRecDepth 100000 in
set_option maxHeartbeats 3200000 in
theorem specNodeOk_in (b off N cap : Nat) (m : Nat) (q : Nd) (ka : Option Addr) (kc : Nat) (ns : List Nd) (w : World) (hl : N ≤ 1048576) (hA : At w N m b off q ka kc) (hb : b < w.heap.size) (hq : q.kids.length ≤ 1048576) (hn : q.name.size ≤ 1048576)
    (hN : Hid (ns.length = N)) (hR : RowNd w w.heap.size (.slice (some ⟨b, off, none⟩) N cap) ns) (hK : RowI w w.heap.size (.slice ka q.kids.length kc) q.kids) :
    Calls Tryz.prog 109 #[.slice (some ⟨b, off, none⟩) N cap, .int .i64 (m : Int)] w fun e w' => e = .returned (.bool (headOk q && kidsTo ns (m : Int) q q.kids.length)) ∧ Below w.heap.size w w' := by
  obtain ⟨hm, c0, c1, c2, c3⟩ := hA
  obtain ⟨kd, nm, tx, ks⟩ := q
  have HR : Hid (RowNd w w.heap.size (.slice (some ⟨b, off, none⟩) N cap) ns) := hR
  simp only at c0 c1 c2 c3 hq hn hK
  have hm0 : (0 : Int) ≤ (m : Int) := by omega
  have hm1 : (m : Int) < (N : Int) := by omega
  have hm2 : (m : Int) ≤ (N : Int) - 1 := by omega
  obtain ⟨K, HK⟩ : ∃ K, Hid (ks.length = K) := ⟨_, (rfl : ks.length = ks.length)⟩
  rw [HK.out] at c3 hq hK
  have HI : Hid (RowI w w.heap.size (.slice ka K kc) ks) := hK
  clear hK hR
  obtain ⟨res, HRes⟩ : ∃ r, Hid ((headOk ⟨kd, nm, tx, ks⟩ && kidsTo ns (m : Int) ⟨kd, nm, tx, ks⟩ K) = r) := ⟨_, (rfl : (headOk ⟨kd, nm, tx, ks⟩ && kidsTo ns (m : Int) ⟨kd, nm, tx, ks⟩ K) = _)⟩
  rw [show (⟨kd, nm, tx, ks⟩ : Nd).kids.length = K from HK.out, HRes.out]
  have cM : ∀ W, Calls Tryz.prog 63 #[.int .i64 (m : Int), .int .i64 0, .int .i64 ((N : Int) - 1)] W fun e w' => e = .returned (.bool true) ∧ w' = W := fun W => l01In_yes _ _ _ W hm0 hm2
  have HH : Hid (headOk ⟨kd, nm, tx, ks⟩ = (isIn kd 1 20 && isIn (K : Int) (kidsLow kd) (kidsHigh kd) && isIn nm 0 1000000000 && (decide (kd = 1) || decide (nm = 0)) && (isNamed kd == decide (0 < tx.size)) && (decide (tx.size = 0) || nameOk tx))) := by
    rw [← HK.out]
    exact rfl
  have HNo : Hid (headOk ⟨kd, nm, tx, ks⟩ = false → res = false) := fun h => by rw [← HRes.out, h]; rfl
  rcases isIn_cases kd 1 20 with ⟨i1, k1⟩ | ⟨i1, k1, k2⟩
  · have cD : ∀ W, Calls Tryz.prog 63 #[.int .i64 kd, .int .i64 1, .int .i64 20] W fun e w' => e = .returned (.bool false) ∧ w' = W := fun W => l01In_no _ _ _ W k1
    obtain rfl := HNo.out (by rw [HH.out, i1]; simp)
    go_enter Tryz.func109, Tryz.ntmps109
    go_wp2_with (go_at_call 63; (first | (with_reducible refine Calls.mono (cM _) ?_) | (with_reducible refine Calls.mono (cD _) ?_)); rintro e w1 ⟨rfl, h⟩; obtain rfl := h.symm)
    go_ret
    exact ⟨rfl, Below.refl _ _⟩
  have cD : ∀ W, Calls Tryz.prog 63 #[.int .i64 kd, .int .i64 1, .int .i64 20] W fun e w' => e = .returned (.bool true) ∧ w' = W := fun W => l01In_yes _ _ _ W k1 k2
  obtain ⟨lo, hlo⟩ : ∃ lo, Hid (kidsLow kd = lo) := ⟨_, (rfl : kidsLow kd = kidsLow kd)⟩
  obtain ⟨hi, hhi⟩ : ∃ hi, Hid (kidsHigh kd = hi) := ⟨_, (rfl : kidsHigh kd = kidsHigh kd)⟩
  have cK : ∀ W, Calls Tryz.prog 156 #[.int .i64 kd] W fun e w' => e = .returned (.tuple #[.int .i64 lo, .int .i64 hi]) ∧ w' = W := fun W => by rw [← hlo.out, ← hhi.out]; exact l04Kids_is kd W
  obtain ⟨b2, hb2⟩ : ∃ r, Hid (isIn (K : Int) lo hi = r) := ⟨_, (rfl : isIn (K : Int) lo hi = isIn (K : Int) lo hi)⟩
  obtain ⟨b3, hb3⟩ : ∃ r, Hid (isIn nm 0 1000000000 = r) := ⟨_, (rfl : isIn nm 0 1000000000 = isIn nm 0 1000000000)⟩
  obtain ⟨nd, hnd⟩ : ∃ nd, Hid (isNamed kd = nd) := ⟨_, (rfl : isNamed kd = isNamed kd)⟩
  obtain ⟨ok, hok⟩ : ∃ r, Hid (nameOk tx = r) := ⟨_, (rfl : nameOk tx = nameOk tx)⟩
  have cL : ∀ W, Calls Tryz.prog 63 #[.int .i64 (K : Int), .int .i64 lo, .int .i64 hi] W fun e w' => e = .returned (.bool b2) ∧ w' = W := fun W => by rw [← hb2.out]; exact l01In_is _ _ _ W
  have cN : ∀ W, Calls Tryz.prog 63 #[.int .i64 nm, .int .i64 0, .int .i64 1000000000] W fun e w' => e = .returned (.bool b3) ∧ w' = W := fun W => by rw [← hb3.out]; exact l01In_is _ _ _ W
  have cW : ∀ W, Calls Tryz.prog 157 #[.int .i64 kd] W fun e w' => e = .returned (.bool nd) ∧ w' = W := fun W => by rw [← hnd.out]; exact l04Named_is kd W
  have cO : ∀ W, Calls Tryz.prog 110 #[.string tx] W fun e w' => e = .returned (.bool ok) ∧ Below W.heap.size W w' := fun W => by rw [← hok.out]; exact specNameOk_any tx W hn
  have HH2 : Hid (headOk ⟨kd, nm, tx, ks⟩ = (b2 && b3 && (decide (kd = 1) || decide (nm = 0)) && (nd == decide (0 < tx.size)) && (decide (tx.size = 0) || ok))) := by
    rw [HH.out, i1, hlo.out, hhi.out, hb2.out, hb3.out, hnd.out, hok.out]
    exact rfl
  clear HH k1 k2 hm2
  go_enter Tryz.func109, Tryz.ntmps109
  go_upto_region 5 with (first | (go_at_call 63; (first | (with_reducible refine Calls.mono (cM _) ?_) | (with_reducible refine Calls.mono (cD _) ?_)); rintro e w1 ⟨rfl, h⟩; obtain rfl := h.symm) | (go_at_call 156; refine (cK _).mono ?_; rintro e w1 ⟨rfl, h⟩; obtain rfl := h.symm))
  go_cut [57] from 35 to 57 (fun r wx => wx = (w.alloc (.cells #[.int .i64 kd, .int .i64 nm, .string tx, .slice ka K kc] 87)) ∧ r = .bool (!(b2 && b3 && (decide (kd = 1) || decide (nm = 0)))))
  case first =>
    cases b2
    · go_wp2_with (go_at_call 63; (first | (with_reducible refine Calls.mono (cL _) ?_) | (with_reducible refine Calls.mono (cN _) ?_)); rintro e w1 ⟨rfl, h⟩; obtain rfl := h.symm)
      go_meet
      exact ⟨rfl, rfl⟩
    · cases b3
      · go_wp2_with (go_at_call 63; (first | (with_reducible refine Calls.mono (cL _) ?_) | (with_reducible refine Calls.mono (cN _) ?_)); rintro e w1 ⟨rfl, h⟩; obtain rfl := h.symm)
        go_meet
        exact ⟨rfl, rfl⟩
      · by_cases h1 : kd = 1
        · have e1 : (kd != 1) = false := by simp [h1]
          have HE : Hid (decide (kd = 1) = true) := by show _ = _; simp [h1]
          clear h1
          go_wp2_with (go_at_call 63; (first | (with_reducible refine Calls.mono (cL _) ?_) | (with_reducible refine Calls.mono (cN _) ?_)); rintro e w1 ⟨rfl, h⟩; obtain rfl := h.symm)
          go_meet
          exact ⟨rfl, by rw [HE.out]; rfl⟩
        · have e1 : (kd != 1) = true := by simpa using h1
          have HE : Hid (decide (kd = 1) = false) := by show _ = _; simp [h1]
          clear h1
          by_cases h2 : nm = 0
          · have e2 : (nm != 0) = false := by simp [h2]
            have HE2 : Hid (decide (nm = 0) = true) := by show _ = _; simp [h2]
            clear h2
            go_wp2_with (go_at_call 63; (first | (with_reducible refine Calls.mono (cL _) ?_) | (with_reducible refine Calls.mono (cN _) ?_)); rintro e w1 ⟨rfl, h⟩; obtain rfl := h.symm)
            go_meet
            exact ⟨rfl, by rw [HE.out, HE2.out]; rfl⟩
          · have e2 : (nm != 0) = true := by simpa using h2
            have HE2 : Hid (decide (nm = 0) = false) := by show _ = _; simp [h2]
            clear h2
            go_wp2_with (go_at_call 63; (first | (with_reducible refine Calls.mono (cL _) ?_) | (with_reducible refine Calls.mono (cN _) ?_)); rintro e w1 ⟨rfl, h⟩; obtain rfl := h.symm)
            go_meet
            exact ⟨rfl, by rw [HE.out, HE2.out]; rfl⟩
  case rest =>
  obtain ⟨rfl, rfl⟩ := hcut
  obtain ⟨g1, hg1⟩ : ∃ r, Hid ((b2 && b3 && (decide (kd = 1) || decide (nm = 0))) = r) := ⟨_, (rfl : (b2 && b3 && (decide (kd = 1) || decide (nm = 0))) = _)⟩
  rw [hg1.out]
  have HH3 : Hid (headOk ⟨kd, nm, tx, ks⟩ = (g1 && (nd == decide (0 < tx.size)) && (decide (tx.size = 0) || ok))) := by
    rw [HH2.out, hg1.out]
    exact rfl
  clear HH2 cL cN cM cD cK
  cases g1
  · obtain rfl := HNo.out (by rw [HH3.out]; rfl)
    go_wp2
    go_ret
    exact ⟨rfl, by go_grown⟩
  go_upto_region 7 with fail
  go_cut [75] from 58 to 75 (fun r wx => Below (w.alloc (.cells #[.int .i64 kd, .int .i64 nm, .string tx, .slice ka K kc] 87)).heap.size (w.alloc (.cells #[.int .i64 kd, .int .i64 nm, .string tx, .slice ka K kc] 87)) wx ∧ r = .bool (!((nd == decide (0 < tx.size)) && (decide (tx.size = 0) || ok))))
  case first =>
    by_cases htx : tx.size = 0
    · obtain rfl : tx = ⟨#[]⟩ := by
        cases tx with | mk d => simp [ByteArray.size] at htx; simp [htx]
      clear htx
      cases nd
      · go_quiet (first | (go_at_call 157; refine Calls.quiet_of_same (cW _)))
        go_wp2
        go_meet
        exact ⟨⟨rfl, rfl, rfl, Nat.le_refl _, fun _ _ => rfl⟩, rfl⟩
      · go_quiet (first | (go_at_call 157; refine Calls.quiet_of_same (cW _)))
        go_wp2
        go_meet
        exact ⟨⟨rfl, rfl, rfl, Nat.le_refl _, fun _ _ => rfl⟩, rfl⟩
    · have hne1 := name_some htx
      have hne2 : (tx.toList == []) = false := by rw [← empty_list]; exact hne1
      have HE : Hid (decide (0 < tx.size) = true ∧ decide (tx.size = 0) = false) := ⟨by simp; omega, by simp [htx]⟩
      clear htx
      cases nd
      · go_quiet (first | (go_at_call 157; refine Calls.quiet_of_same (cW _)))
        go_wp2
        go_meet
        exact ⟨⟨rfl, rfl, rfl, Nat.le_refl _, fun _ _ => rfl⟩, by rw [HE.out.1]; rfl⟩
      · go_region_held3 (fun w' => w'.cell? ⟨w.heap.size, 0, none⟩ = some (.int .i64 kd) ∧ w'.cell? ⟨w.heap.size, 2, none⟩ = some (.string tx)) (first | (exact ⟨by simp, by simp⟩) | (exact ⟨(hb9.cell (p := ⟨w.heap.size, 0, none⟩) (by show _ < _; simp)).trans (by simp), (hb9.cell (p := ⟨w.heap.size, 2, none⟩) (by show _ < _; simp)).trans (by simp)⟩)) (first | (go_at_call 157; refine Calls.mono (cW _) ?_; rintro e w8 ⟨rfl, h⟩; obtain rfl := h.symm) | (go_at_call 110; refine Calls.mono (cO _) ?_; rintro e w9 ⟨rfl, hb9⟩))
        go_wp2
        go_meet
        exact ⟨(Below.refl _ _).drew.trans hb9, by rw [HE.out.1, HE.out.2]; rfl⟩
  case rest =>
  obtain ⟨hbw, rfl⟩ := hcut
  obtain ⟨g2, hg2⟩ : ∃ r, Hid (((nd == decide (0 < tx.size)) && (decide (tx.size = 0) || ok)) = r) := ⟨_, (rfl : ((nd == decide (0 < tx.size)) && (decide (tx.size = 0) || ok)) = _)⟩
  rw [hg2.out]
  have HH4 : Hid (headOk ⟨kd, nm, tx, ks⟩ = g2) := by
    rw [HH3.out, Bool.true_and, hg2.out]
    exact rfl
  have HBw : Hid (Below (w.alloc (.cells #[.int .i64 kd, .int .i64 nm, .string tx, .slice ka K kc] 87)).heap.size (w.alloc (.cells #[.int .i64 kd, .int .i64 nm, .string tx, .slice ka K kc] 87)) wc) := hbw
  clear HH3 cW cO hbw
  cases g2
  · obtain rfl := HNo.out HH4.out
    go_wp2
    go_ret
    exact ⟨rfl, ((Below.refl _ _).alloc (Nat.le_refl _) _).trans (HBw.out.mono (by simp))⟩
  have HBc : Hid (Below w.heap.size w wc) := ((Below.refl _ _).alloc (Nat.le_refl _) _).trans (HBw.out.mono (by simp))
  have hsz : w.heap.size < wc.heap.size := by have := HBw.out.size; simp at this; omega
  have HX : Hid (wc.cell? ⟨w.heap.size, 0, none⟩ = some (.int .i64 kd) ∧ wc.cell? ⟨w.heap.size, 3, none⟩ = some (.slice ka K kc)) :=
    ⟨(HBw.out.cell (p := ⟨w.heap.size, 0, none⟩) (by show _ < _; simp)).trans (by simp), (HBw.out.cell (p := ⟨w.heap.size, 3, none⟩) (by show _ < _; simp)).trans (by simp)⟩
  have HI2 : Hid (RowI wc w.heap.size (.slice ka K kc) ks) := HI.out.keep HBc.out
  have HR2 : Hid (RowNd wc w.heap.size (.slice (some ⟨b, off, none⟩) N cap) ns) := HR.out.keep HBc.out
  have HY : Hid (kidsTo ns (m : Int) ⟨kd, nm, tx, ks⟩ K = res) := by
    rw [← HRes.out, HH4.out]
    exact rfl
  clear HBw HI HR HRes HNo HH4 c0 c1 c2 c3
  go_wp2_with fail
  go_loopw [8, 9] (fun i _ wr => ∃ t : Nat, t ≤ K ∧ i = .int .i64 (t : Int) ∧ Hid (kidsTo ns (m : Int) ⟨kd, nm, tx, ks⟩ t = true) ∧ Below wc.heap.size wc wr) (fun i _ _ => K - (intOf i).toNat)
  case atStart => exact ⟨0, Nat.zero_le _, rfl, rfl, Below.refl _ _⟩
  case round =>
    obtain ⟨t, ht, rfl, HT, hbw⟩ := hrel
    have x0 := (hbw.cell (p := ⟨w.heap.size, 0, none⟩) hsz).trans HX.out.1
    have x3 := (hbw.cell (p := ⟨w.heap.size, 3, none⟩) hsz).trans HX.out.2
    by_cases hlt : t < K
    · have ht1 : (t : Int) < (K : Int) := by omega
      have ht0 : (0 : Int) ≤ (t : Int) := by omega
      have htl : t < ks.length := by have := HK.out; omega
      obtain ⟨kb, ko, rfl, hkb, y0⟩ := HI2.out.at t htl
      obtain ⟨x, hx⟩ : ∃ x, Hid (ks[t] = x) := ⟨_, (rfl : ks[t] = ks[t])⟩
      have y1 := (hbw.cell (p := ⟨kb, ko + t, none⟩) (by show kb < _; omega)).trans y0
      rw [hx.out] at y1
      have hxd : Hid (ks.getD t 0 = x) := by show _ = _; rw [← hx.out]; simp [List.getD, htl]
      clear y0
      have cI : ∀ r, isIn x 0 ((m : Int) - 1) = r → ∀ W, Calls Tryz.prog 63 #[.int .i64 x, .int .i64 0, .int .i64 ((m : Int) - 1)] W fun e w' => e = .returned (.bool r) ∧ w' = W := fun r hr W => by rw [← hr]; exact l01In_is _ _ _ W
      rcases isIn_cases x 0 ((m : Int) - 1) with ⟨i2, k3⟩ | ⟨i2, k3, k4⟩
      · have HZ : Hid (res = false) := by
          rw [← HY.out]
          exact kidsTo_false hlt (by unfold kidOk; simp only [hxd.out, i2, Bool.false_and])
        have cI0 := cI false i2
        clear cI i2 k3
        go_wp2_with fail
        go_quiet (first | (go_at_call 63; refine Calls.quiet_of_same (cI0 _)))
        go_wp2
        go_ret
        exact ⟨by rw [HZ.out]; rfl, HBc.out.trans ((below_drewN hbw _).mono (Nat.le_of_lt hsz))⟩
      have cI1 := cI true i2
      clear cI
      obtain ⟨c, rfl⟩ : ∃ c : Nat, x = (c : Int) := ⟨x.toNat, by omega⟩
      have hcm : c < m := by omega
      have hcN : (c : Int) < (N : Int) := by omega
      have hc0 : (0 : Int) ≤ (c : Int) := by omega
      have hcl : c < ns.length := by have := hN.out; omega
      obtain ⟨_, _, _, _, e, hbb, z0, _, _, _, _⟩ := HR2.out.at c hcl
      cases e
      obtain ⟨ck, hck⟩ : ∃ z, Hid (ns[c].kind = z) := ⟨_, (rfl : ns[c].kind = ns[c].kind)⟩
      have z1 := (hbw.cell (p := ⟨b, off + c * 4, none⟩) (by show b < _; omega)).trans z0
      rw [hck.out] at z1
      have hckd : Hid ((ns.getD c nd0).kind = ck) := by show _ = _; rw [← hck.out]; simp [List.getD, hcl]
      clear z0
      obtain ⟨f, hf⟩ : ∃ f, Hid (fits kd (t : Int) ck = f) := ⟨_, (rfl : fits kd (t : Int) ck = fits kd (t : Int) ck)⟩
      have cF : ∀ W, Calls Tryz.prog 158 #[.int .i64 kd, .int .i64 (t : Int), .int .i64 ck] W fun e w' => e = .returned (.bool f) ∧ w' = W := fun W => by rw [← hf.out]; exact l04Fits_is _ _ _ W
      have HKid : Hid (kidOk ns (m : Int) ⟨kd, nm, tx, ks⟩ t = (f && !((ks.take t).contains (c : Int)))) := by
        show _ = _
        unfold kidOk
        simp only [hxd.out, i2, Bool.true_and, Int.toNat_natCast, hckd.out, hf.out]
      clear i2 k3 k4
      cases f
      · have HZ : Hid (res = false) := by
          rw [← HY.out]
          exact kidsTo_false hlt (by rw [HKid.out]; rfl)
        go_wp2_with fail
        go_quiet (first | (go_at_call 63; refine Calls.quiet_of_same (cI1 _)) | (go_at_call 158; refine Calls.quiet_of_same (cF _)))
        go_wp2
        go_ret
        exact ⟨by rw [HZ.out]; rfl, HBc.out.trans ((below_drewN hbw _).mono (Nat.le_of_lt hsz))⟩
      go_wp2_with fail
      go_quiet (first | (go_at_call 63; refine Calls.quiet_of_same (cI1 _)) | (go_at_call 158; refine Calls.quiet_of_same (cF _)))
      go_wp2_with fail
      have HB0 : Hid (Below wc.heap.size wc (wr.drewN nq)) := below_drewN hbw _
      clear x0 x3 y1 z1 hbw
      go_loopw [9] (fun j wr => ∃ u : Nat, u ≤ t ∧ j = .int .i64 (u : Int) ∧ Hid (∀ z, (hz : z < ks.length) → z < u → ¬ ks[z] = (c : Int)) ∧ Below wc.heap.size wc wr) (fun j _ => t - (intOf j).toNat)
      case atStart => exact ⟨0, Nat.zero_le _, rfl, fun z _ hz => by omega, HB0.out⟩
      case round =>
        obtain ⟨u, hu, rfl, HU, hbw⟩ := hrel
        have x3 := (hbw.cell (p := ⟨w.heap.size, 3, none⟩) hsz).trans HX.out.2
        by_cases hut : u < t
        · have hu1 : (u : Int) < (t : Int) := by omega
          have hu0 : (0 : Int) ≤ (u : Int) := by omega
          have huK : (u : Int) < (K : Int) := by omega
          have hul : u < ks.length := by omega
          obtain ⟨_, _, e1, hkb1, y0⟩ := HI2.out.at t htl
          cases e1
          obtain ⟨_, _, e2, _, y2⟩ := HI2.out.at u hul
          cases e2
          have y1 := (hbw.cell (p := ⟨kb, ko + t, none⟩) (by show kb < _; omega)).trans y0
          have y3 := (hbw.cell (p := ⟨kb, ko + u, none⟩) (by show kb < _; omega)).trans y2
          obtain ⟨y, hy⟩ : ∃ y, Hid (ks[u] = y) := ⟨_, (rfl : ks[u] = ks[u])⟩
          rw [hx.out] at y1
          rw [hy.out] at y3
          clear y0 y2
          by_cases hcy : (c : Int) = y
          · have hcy' : ((c : Int) == y) = true := by simpa using hcy
            have HZ : Hid (res = false) := by
              rw [← HY.out]
              refine kidsTo_false hlt ?_
              rw [HKid.out, take_at (by omega) hut (by rw [hy.out, hcy])]
              rfl
            clear hcy
            go_wp2_with fail
            go_quiet (fail)
            go_wp2
            go_ret
            exact ⟨by rw [HZ.out]; rfl, HBc.out.trans ((below_drewN hbw _).mono (Nat.le_of_lt hsz))⟩
          · have hcy' : ((c : Int) == y) = false := by simpa using hcy
            have HU1 : Hid (∀ z, (hz : z < ks.length) → z < u + 1 → ¬ ks[z] = (c : Int)) := fun z hz hzu => by
              by_cases e : z = u
              · subst e
                rw [hy.out]
                exact fun e' => hcy e'.symm
              · exact HU.out z hz (by omega)
            clear hcy HU
            go_wp2_with fail
            go_quiet (fail)
            go_wp2
            go_roundw
            case rel => exact ⟨u + 1, by omega, by go_num, HU1, below_drewN hbw _⟩
            case measure => simp [intOf]; omega
        · have hut' : ¬ (u : Int) < (t : Int) := by omega
          have hute : Hid (u = t) := (by omega : u = t)
          have HT1 : Hid (kidsTo ns (m : Int) ⟨kd, nm, tx, ks⟩ (t + 1) = true) := by
            show (kidsTo ns (m : Int) ⟨kd, nm, tx, ks⟩ t && kidOk ns (m : Int) ⟨kd, nm, tx, ks⟩ t) = true
            rw [HT.out, HKid.out, take_has (by omega) (fun z hz hzt => HU.out z hz (by rw [hute.out]; exact hzt))]
            rfl
          clear HU
          go_wp2
          go_roundw
          case rel => exact ⟨t + 1, by omega, by go_num, HT1, hbw⟩
          case measure => simp [intOf]; omega
    · have hke : Hid (t = K) := (by omega : t = K)
      have HZ : Hid (res = true) := by
        rw [← HY.out, ← hke.out]
        exact HT.out
      go_wp2
      go_ret
      exact ⟨by rw [HZ.out]; rfl, HBc.out.trans (hbw.mono (by omega))⟩

theorem specNodeOk_any (B : Nat) (v : Value) (ns : List Nd) (k : Int) (w : World) (hB : B ≤ w.heap.size) (hv : RowNd w B v ns) (hl : ns.length ≤ 1048576) (hs : ∀ q ∈ ns, q.kids.length ≤ 1048576 ∧ q.name.size ≤ 1048576) :
    Calls Tryz.prog 109 #[v, .int .i64 k] w fun e w' => e = .returned (.bool (nodeOk ns k)) ∧ Below w.heap.size w w' := by
  obtain ⟨a, cap, rfl⟩ := hv.len
  rcases isIn_cases k 0 ((ns.length : Int) - 1) with ⟨_, h⟩ | ⟨i1, h0, h1⟩
  · refine (specNodeOk_out a ns.length cap ns k w rfl hl h).mono ?_
    rintro e w1 ⟨rfl, rfl⟩
    exact ⟨rfl, Below.refl _ _⟩
  · obtain ⟨m, rfl⟩ : ∃ m : Nat, k = (m : Int) := ⟨k.toNat, by omega⟩
    have hm : m < ns.length := by omega
    obtain ⟨b, off, ka, kc, rfl, hb, c0, c1, c2, c3, hk⟩ := hv.at m hm
    obtain ⟨s1, s2⟩ := hs ns[m] (List.getElem_mem hm)
    have hd : ns.getD (m : Int).toNat nd0 = ns[m] := by simp [List.getD, hm]
    have e : nodeOk ns (m : Int) = (headOk ns[m] && kidsTo ns (m : Int) ns[m] ns[m].kids.length) := by
      unfold nodeOk
      rw [i1, hd, Bool.true_and]
    rw [e]
    exact specNodeOk_in b off ns.length cap m ns[m] ka kc ns w hl ⟨hm, c0, c1, c2, c3⟩ (by omega) s1 s2 rfl (hv.up hB) (hk.up hB)

end Go.Proofs.YtbanmldmdoedkaaGreatDoor
