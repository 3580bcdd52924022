/-
  Chapter 4, in the program: what is asked of params, of Body and Ret.
-/
import Derived.Test.YtccelfjlffoiiaaUsed
import Derived.Test.YtccelfjlffoiiaaFnAt
namespace Go.Proofs.Ytccelfjlffoiiaa
open Go.RowKit

/-- One node's kind. -/
theorem kind_at {w : World} {B b off N cap : Nat} {ns : List Nd} (h : NdR.Row w B (.slice (some ⟨b, off, none⟩) N cap) ns) (m : Nat) (hm : m < ns.length) : ∃ d, ns[m].kind = d ∧ (ns.getD m nd0).kind = d ∧ b < B ∧ w.cell? ⟨b, off + m * 4, none⟩ = some (.int .i64 d) := by
  obtain ⟨b', off', ka, kc, e, hb, c0, _⟩ := RowNd.at h m hm
  cases e
  exact ⟨_, rfl, by simp [List.getD, hm], hb, c0⟩

set_option maxRecDepth 100000 in
set_option maxHeartbeats 1600000 in
theorem endsOk_any (va : Option Addr) (N cap : Nat) (ns : List Nd) (f : Fc) (pv : Value) (w : World) (hR : NdR.Row w w.heap.size (.slice va N cap) ns) (hN : Hid (ns.length = N)) :
    Calls Try.prog 73 #[.slice va N cap, .agg #[.string f.name, pv, .int .i64 f.res, .int .i64 f.body, .int .i64 f.ret]] w fun e w' => e = .returned (.bool (endsOkB ns f)) ∧ Below w.heap.size w w' := by
  obtain ⟨fname, fpar, res, body, ret⟩ := f
  simp only
  have cB : Hid (∀ W k r, isIn k 0 ((N : Int) - 1) = r → Calls Try.prog 40 #[.slice va N cap, .int .i64 k] W fun e w' => e = .returned (.bool r) ∧ w' = W) := fun W k r h => by rw [← h]; exact isPlace_any va N cap k W
  obtain ⟨z, hz⟩ : ∃ z, Hid (endsOkB ns ⟨fname, fpar, res, body, ret⟩ = z) := ⟨_, (rfl : endsOkB ns ⟨fname, fpar, res, body, ret⟩ = _)⟩
  rw [hz.out]
  have HZ := hz.out
  unfold endsOkB at HZ
  simp only at HZ
  rw [hN.out] at HZ
  rcases isIn_cases body 0 ((N : Int) - 1) with ⟨hi, h⟩ | ⟨hi, h0, h1⟩
  · rw [hi, Bool.false_and, Bool.false_and] at HZ
    subst HZ
    go_enter Try.func73, Try.ntmps73
    go_wp2_with (go_at_call 40; refine Calls.mono (cB.out _ _ _ hi) ?_; rintro e w1 ⟨rfl, h⟩; obtain rfl := h.symm)
    go_ret
    exact ⟨rfl, by go_grown⟩
  rw [hi, Bool.true_and] at HZ
  obtain ⟨bn, rfl⟩ : ∃ bn : Nat, body = (bn : Int) := ⟨body.toNat, by omega⟩
  have hbn : bn < ns.length := by rw [hN.out]; omega
  have HV : Hid (NdR.Row w w.heap.size (.slice va N cap) ns) := hR
  obtain ⟨b, off, _, _, rfl, _⟩ := RowNd.at hR bn hbn
  obtain ⟨d, _, hd, hb, c0⟩ := kind_at hR bn hbn
  rw [Int.toNat_natCast, hd] at HZ
  have hb0 : (0 : Int) ≤ (bn : Int) := by omega
  have hb1 : (bn : Int) < (N : Int) := by omega
  have d0 : ∀ o1, (w.alloc o1).cell? ⟨b, off + bn * 4, none⟩ = some (.int .i64 d) := fun o1 => (cell_old w o1 hb).trans c0
  clear hR c0
  by_cases h20 : d = 20
  · subst h20
    simp only [decide_true, Bool.true_and] at HZ
    by_cases hr0 : res = 0
    · subst hr0
      simp only [if_true] at HZ
      by_cases hm1 : ret = -1
      · subst hm1
        simp only [decide_true] at HZ
        subst HZ
        go_enter Try.func73, Try.ntmps73
        go_wp2_with (go_at_call 40; refine Calls.mono (cB.out _ _ _ hi) ?_; rintro e w1 ⟨rfl, h⟩; obtain rfl := h.symm)
        go_ret
        exact ⟨rfl, by go_grown⟩
      · have e1 : (ret == -1) = false := by simpa using hm1
        have e2 : z = false := by rw [← HZ]; simpa using hm1
        subst e2
        clear HZ hm1
        go_enter Try.func73, Try.ntmps73
        go_wp2_with (go_at_call 40; refine Calls.mono (cB.out _ _ _ hi) ?_; rintro e w1 ⟨rfl, h⟩; obtain rfl := h.symm)
        go_ret
        exact ⟨rfl, by go_grown⟩
    · rw [if_neg hr0] at HZ
      by_cases hr12 : res = 1 ∨ res = 2
      · rw [if_pos hr12] at HZ
        rcases isIn_cases ret 0 ((N : Int) - 1) with ⟨hri, hrr⟩ | ⟨hri, hq0, hq1⟩
        · rw [hri, Bool.false_and] at HZ
          subst HZ
          rcases hr12 with rfl | rfl
          all_goals
            go_enter Try.func73, Try.ntmps73
            go_wp2_with (go_at_call 40; (first | (with_reducible refine Calls.mono (cB.out _ _ _ hi) ?_) | (with_reducible refine Calls.mono (cB.out _ _ _ hri) ?_)); rintro e w1 ⟨rfl, h⟩; obtain rfl := h.symm)
            go_ret
            exact ⟨rfl, by go_grown⟩
        · rw [hri, Bool.true_and] at HZ
          obtain ⟨rn, rfl⟩ : ∃ rn : Nat, ret = (rn : Int) := ⟨ret.toNat, by omega⟩
          have hrn : rn < ns.length := by rw [hN.out]; omega
          obtain ⟨d2, _, hd2, hb2, c2⟩ := kind_at HV.out rn hrn
          rw [Int.toNat_natCast, hd2] at HZ
          have hrb0 : (0 : Int) ≤ (rn : Int) := by omega
          have hrb1 : (rn : Int) < (N : Int) := by omega
          have d3 : ∀ o1, (w.alloc o1).cell? ⟨b, off + rn * 4, none⟩ = some (.int .i64 d2) := fun o1 => (cell_old w o1 hb2).trans c2
          have cV : Hid (∀ W, Calls Try.prog 84 #[.int .i64 d2] W fun e w' => e = .returned (.bool z) ∧ w' = W) := fun W => by rw [← HZ]; exact isValue_any d2 W
          clear HZ c2
          rcases hr12 with rfl | rfl
          all_goals
            go_enter Try.func73, Try.ntmps73
            go_wp2_with (first | (go_at_call 40; (first | (with_reducible refine Calls.mono (cB.out _ _ _ hi) ?_) | (with_reducible refine Calls.mono (cB.out _ _ _ hri) ?_)); rintro e w1 ⟨rfl, h⟩; obtain rfl := h.symm) | (go_at_call 84; refine Calls.mono (cV.out _) ?_; rintro e w1 ⟨rfl, h⟩; obtain rfl := h.symm))
            go_ret
            exact ⟨rfl, by go_grown⟩
      · rw [if_neg hr12] at HZ
        subst HZ
        have e0 : (res == 0) = false := by simpa using hr0
        have e1 : (res == 1) = false := by simp; omega
        have e2 : (res == 2) = false := by simp; omega
        clear hr0 hr12
        go_enter Try.func73, Try.ntmps73
        go_wp2_with (go_at_call 40; refine Calls.mono (cB.out _ _ _ hi) ?_; rintro e w1 ⟨rfl, h⟩; obtain rfl := h.symm)
        go_ret
        exact ⟨rfl, by go_grown⟩
  · have e1 : (d != 20) = true := by simpa using h20
    have e2 : z = false := by rw [← HZ]; simp [h20]
    subst e2
    clear HZ h20
    go_enter Try.func73, Try.ntmps73
    go_wp2_with (go_at_call 40; refine Calls.mono (cB.out _ _ _ hi) ?_; rintro e w1 ⟨rfl, h⟩; obtain rfl := h.symm)
    go_ret
    exact ⟨rfl, by go_grown⟩

theorem pms_false {xs : List Pm} {k : Nat} (hk : k < xs.length) (h : pmOk xs[k] = false) : xs.all pmOk = false := by
  rw [← Bool.not_eq_true, List.all_eq_true]
  intro hh
  have := hh _ (List.getElem_mem hk)
  rw [h] at this
  cases this
theorem pms_true {xs : List Pm} (h : ∀ j, (hj : j < xs.length) → pmOk xs[j] = true) : xs.all pmOk = true := by
  rw [List.all_eq_true]
  intro x hx
  obtain ⟨j, hj, rfl⟩ := List.getElem_of_mem hx
  exact h j hj

set_option maxRecDepth 100000 in
set_option maxHeartbeats 1600000 in
theorem paramsOk_any (v : Value) (xs : List Pm) (w : World) (hR : PmR.Row w w.heap.size v xs) (hl : szRow szPm xs ≤ 1048576) :
    Calls Try.prog 72 #[v] w fun e w' => e = .returned (.bool (decide (xs.length ≤ 3) && xs.all pmOk)) ∧ Below w.heap.size w w' := by
  obtain ⟨a, cap, rfl⟩ := hR.len
  obtain ⟨N, HN⟩ : ∃ N, Hid (xs.length = N) := ⟨_, (rfl : xs.length = xs.length)⟩
  have H : Hid (PmR.Row w w.heap.size (.slice a N cap) xs) := by rw [← HN.out]; exact hR
  have HL : Hid (szRow szPm xs ≤ 1048576) := hl
  have hNl : N ≤ 1048576 := by have := len_szRow szPm xs; have := HN.out; omega
  rw [HN.out]
  clear hR hl
  by_cases h3 : (3 : Int) < (N : Int)
  · have HE : Hid (decide (N ≤ 3) = false) := by show _ = _; simp; omega
    go_enter Try.func72, Try.ntmps72
    go_wp2
    go_ret
    exact ⟨by rw [HE.out]; rfl, Below.refl _ _⟩
  have HE : Hid (decide (N ≤ 3) = true) := by show _ = _; simp; omega
  rw [HE.out, Bool.true_and]
  go_enter Try.func72, Try.ntmps72
  go_wp2
  go_loopw [10] (fun i wr => ∃ k : Nat, k ≤ N ∧ i = .int .i64 (k : Int) ∧ Hid (∀ j, (hj : j < xs.length) → j < k → pmOk xs[j] = true) ∧ Below w.heap.size w wr) (fun i _ => N - (intOf i).toNat)
  case atStart => exact ⟨0, Nat.zero_le _, rfl, fun j _ hj => by omega, Below.refl _ _⟩
  case round =>
    obtain ⟨k, hk, rfl, HK, hbw⟩ := hrel
    by_cases hlt : k < N
    · have hk1 : (k : Int) < (N : Int) := by omega
      have hk0 : (0 : Int) ≤ (k : Int) := by omega
      have hkl : k < xs.length := by have := HN.out; omega
      obtain ⟨b, off, rfl, hb, c0, c1⟩ := PmR.at H.out k hkl
      have hqs : xs[k].name.size ≤ 1048576 := Nat.le_trans (Nat.le_trans (le_szPm_name _) (mem_szRow szPm (List.getElem_mem hkl))) HL.out
      obtain ⟨q, hqe⟩ : ∃ q, Hid (xs[k] = q) := ⟨_, (rfl : xs[k] = xs[k])⟩
      rw [hqe.out] at c0 c1 hqs
      have d0 := (hbw.cell (p := ⟨b, off + k * 2, none⟩) hb).trans c0
      have d1 := (hbw.cell (p := ⟨b, off + k * 2 + 1, none⟩) hb).trans c1
      clear c0 c1
      obtain ⟨nm, ty⟩ := q
      simp only at d0 d1 hqs
      obtain ⟨ok, hok⟩ : ∃ r, Hid (nameOk nm = r) := ⟨_, (rfl : nameOk nm = nameOk nm)⟩
      have cO : Hid (∀ W, Calls Try.prog 68 #[.string nm] W fun e w' => e = .returned (.bool ok) ∧ Below W.heap.size W w') := fun W => by rw [← hok.out]; exact implNameOk_any nm W (Nat.le_trans hqs (by unfold maxLen; omega))
      have HP : Hid (pmOk ⟨nm, ty⟩ = (ok && isIn ty 1 4)) := by show _ = _; rw [pmOk, hok.out]
      have hsz := hbw.size
      go_wp2_with fail
      go_at_call 68
      refine Calls.mono (cO.out _) ?_
      rintro e w1 ⟨rfl, hb1⟩
      have HB1 : Hid (Below w.heap.size w w1) := (hbw.alloc hsz _).trans (hb1.mono (by simp; omega))
      have f1 : w1.cell? ⟨wr.heap.size, 1, none⟩ = some (.int .i64 ty) := (hb1.cell (p := ⟨wr.heap.size, 1, none⟩) (by show _ < _; simp)).trans (by simp)
      clear cO hb1 d0 d1
      cases ok
      · have HF : Hid (xs.all pmOk = false) := pms_false hkl (by rw [hqe.out, HP.out]; rfl)
        go_wp2
        go_ret
        exact ⟨by rw [HF.out]; rfl, HB1.out⟩
      · by_cases h1 : ty < 1
        · have HF : Hid (xs.all pmOk = false) := pms_false hkl (by rw [hqe.out, HP.out, isIn_off (by omega)]; rfl)
          go_wp2
          go_ret
          exact ⟨by rw [HF.out]; rfl, HB1.out⟩
        · by_cases h4 : 4 < ty
          · have HF : Hid (xs.all pmOk = false) := pms_false hkl (by rw [hqe.out, HP.out, isIn_off (by omega)]; rfl)
            go_wp2
            go_ret
            exact ⟨by rw [HF.out]; rfl, HB1.out⟩
          · have HK1 : Hid (∀ j, (hj : j < xs.length) → j < k + 1 → pmOk xs[j] = true) := fun j hj hjk => by
              by_cases e : j = k
              · subst e
                rw [hqe.out, HP.out, isIn_yes (by omega) (by omega)]
                rfl
              · exact HK.out j hj (by omega)
            go_wp2
            go_roundw
            case rel => exact ⟨k + 1, by omega, by go_num, HK1, HB1.out⟩
            case measure => simp [intOf]; omega
    · have HF : Hid (xs.all pmOk = true) := pms_true (fun j hj => HK.out j hj (by have := HN.out; omega))
      go_wp2
      go_ret
      exact ⟨by rw [HF.out]; rfl, hbw⟩

end Go.Proofs.Ytccelfjlffoiiaa
