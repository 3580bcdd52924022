/-
  slices.DeleteFunc with UsesOf's test, slices.Grow of nothing, slices.Concat of two rows of numbers.
-/
import Derived.Test.YtjafneaaefpefaaGreatVb
namespace Go.Proofs.YtjafneaaefpefaaGreat
open Go.RowKit

/-- Where DeleteFunc stands: i elements kept of the first j, the row behind them as it was. -/
structure DelSt (ns : List Nd) (nm : ByteArray) (U g cap X : Nat) (zs : List Int) (w wr : World) (i j : Nat) (cur : List Int) : Prop where
  own : OwnsI wr U (.slice (some ⟨g, 0, none⟩) X cap) cur
  len : cur.length = X
  done : cur.take i = usesF ns nm (zs.take j)
  rest : ∀ t, j ≤ t → (ht : t < zs.length) → (hc : t < cur.length) → cur[t] = zs[t]
  grown : w.grownBy wr (some g)
theorem DelSt.draw {ns : List Nd} {nm : ByteArray} {U g cap X : Nat} {zs : List Int} {w wr : World} {i j : Nat} {cur : List Int} (h : DelSt ns nm U g cap X zs w wr i j cur) (q : Nat) : DelSt ns nm U g cap X zs w (wr.drewN q) i j cur :=
  ⟨OwnsR.below h.own (below_grown (grown_drewN wr q)), h.len, h.done, h.rest, grown_trans h.grown (grown_drewN wr q) (.inr rfl) (.inl rfl)⟩
theorem DelSt.skip {ns : List Nd} {nm : ByteArray} {U g cap X : Nat} {zs : List Int} {w wr : World} {i j : Nat} {cur : List Int} (h : DelSt ns nm U g cap X zs w wr i j cur) (hj : j < zs.length) (hx : usesB ns nm zs[j] = false) : DelSt ns nm U g cap X zs w wr i (j + 1) cur := by
  refine ⟨h.own, h.len, ?_, fun t ht => h.rest t (by omega), h.grown⟩
  rw [h.done, usesF_take ns nm zs j hj, hx]
  simp
theorem DelSt.keep {ns : List Nd} {nm : ByteArray} {U g cap X : Nat} {zs : List Int} {w wr : World} {i j : Nat} {cur : List Int} (h : DelSt ns nm U g cap X zs w wr i j cur) (hj : j < zs.length) (hi : i < cur.length) (hij : i < j) (hx : usesB ns nm zs[j] = true) :
    DelSt ns nm U g cap X zs w (wr.setCell ⟨g, i, none⟩ (.int .i64 zs[j])) (i + 1) (j + 1) (cur.set i zs[j]) := by
  have hs := OwnsR.stored inC_len h.own h.own.capLe.1 i 0 hi (by omega) zs[j] (.int .i64 zs[j]) rfl
  rw [Nat.mul_one, Nat.add_zero] at hs
  refine ⟨hs, by rw [List.length_set]; exact h.len, ?_, fun t ht htz htc => ?_, grown_trans h.grown (grown_setCell wr ⟨g, i, none⟩ _) (.inr rfl) (.inr rfl)⟩
  · rw [usesF_take ns nm zs j hj, hx, if_pos rfl, ← h.done]
    apply List.ext_getElem
    · simp
      omega
    · intro t h1 h2
      rw [List.getElem_take, List.getElem_set]
      have hl : (cur.take i).length = i := by rw [List.length_take]; omega
      by_cases e : i = t
      · subst e
        rw [if_pos rfl, List.getElem_append_right (by omega)]
        simp [hl]
      · rw [if_neg e, List.getElem_append_left (by simp at h1; omega), List.getElem_take]
  · rw [List.getElem_set, if_neg (by omega)]
    exact h.rest t (by omega) htz (by rw [List.length_set] at htc; exact htc)

set_option maxRecDepth 100000 in
set_option maxHeartbeats 3200000 in
theorem deleteI_any (ns : List Nd) (nm : ByteArray) (bp bn : Nat) (na : Option Addr) (N nc U : Nat) (a : Option Addr) (n cap : Nat) (zs : List Int) (w : World) (h : UsesAt ns nm bp bn na N nc U w) (hU : U ≤ w.heap.size)
    (hv : OwnsI w U (.slice a n cap) zs) (hz : ∀ x ∈ zs, 0 ≤ x ∧ x < (ns.length : Int)) (hl : zs.length ≤ 4194304) :
    Calls Tryz.prog 38 #[.slice a n cap, .func (.func 39) #[] #[.pointer (some ⟨bp, 0, none⟩), .pointer (some ⟨bn, 0, none⟩)]] w fun e w' =>
      (∃ b m c, e = .returned (.slice b m c) ∧ OwnsI w' U (.slice b m c) (usesF ns nm zs)) ∧ Below U w w' := by
  have hn := hv.row.cap.1
  obtain ⟨X, hX⟩ : ∃ X, X = n := ⟨_, rfl⟩
  subst hX
  have HX : Hid (zs.length = X) := hn
  have HV : Hid (OwnsI w U (.slice a X cap) zs ∧ ∀ x ∈ zs, 0 ≤ x ∧ x < (ns.length : Int)) := ⟨hv, hz⟩
  have HU : Hid (UsesAt ns nm bp bn na N nc U w) := h
  have cI : Hid (Calls Tryz.prog 69 #[.slice a X cap, .func (.func 39) #[] #[.pointer (some ⟨bp, 0, none⟩), .pointer (some ⟨bn, 0, none⟩)]] w fun e w' =>
      (∃ r : Int, e = .returned (.int .i64 r) ∧ ((r = -1 ∧ ∀ x ∈ zs, usesB ns nm x = true) ∨ ∃ i : Nat, r = (i : Int) ∧ ∃ hi : i < zs.length, usesB ns nm zs[i] = false ∧ ∀ j, (hj : j < zs.length) → j < i → usesB ns nm zs[j] = true)) ∧ Below w.heap.size w w') := indexI_any ns nm bp bn na N nc U a X cap zs w h hU hv.row hz hl
  rw [hn] at hl
  clear hv hz h hn
  go_enter Tryz.func38, Tryz.ntmps38
  go_wp2_with fail
  go_at_call 69
  refine Calls.mono cI.out ?_
  rintro e w1 ⟨⟨r, rfl, hr⟩, hb1⟩
  have HO : Hid (OwnsI w1 U (.slice a X cap) zs ∧ Below U w w1 ∧ UsesAt ns nm bp bn na N nc U w1 ∧ U ≤ w1.heap.size) := ⟨OwnsR.below HV.out.1 hb1, hb1.mono hU, HU.out.keep (hb1.mono hU), Nat.le_trans hU hb1.size⟩
  clear cI hb1
  rcases hr with ⟨rfl, hall⟩ | ⟨i, rfl, hi, hx, hbe⟩
  · have HF : Hid (usesF ns nm zs = zs) := List.filter_eq_self.mpr hall
    clear hall
    go_wp2
    go_ret
    exact ⟨⟨a, X, cap, rfl, by rw [HF.out]; exact HO.out.1⟩, HO.out.2.1⟩
  obtain ⟨g, hga⟩ : ∃ g, Hid (a = some ⟨g, 0, none⟩) := by
    rcases OwnsR.form HO.out.1 with ⟨h0, h1⟩ | ⟨g, c, h0, _, _⟩
    · rw [h1] at hi
      simp at hi
    · cases h0
      exact ⟨g, rfl⟩
  have hga2 := hga.out
  subst hga2
  have hiX : i < X := by have := HX.out; omega
  have HS : Hid (DelSt ns nm U g cap X zs w1 w1 i (i + 1) zs) := by
    refine ⟨HO.out.1, HX.out, ?_, fun t _ _ _ => rfl, World.grownBy.refl _ _⟩
    rw [usesF_take ns nm zs i hi, hx]
    simp
    unfold usesF
    symm
    rw [List.filter_eq_self]
    intro x hxm
    obtain ⟨t, ht, rfl⟩ := List.getElem_of_mem hxm
    rw [List.length_take] at ht
    rw [List.getElem_take]
    exact hbe t (by omega) (by omega)
  have hin : ¬ (i : Int) = -1 := by omega
  clear hx hbe hi
  go_wp2_with fail
  go_loopw [5, 6] (fun si sj wr => ∃ (i j : Nat) (cur : List Int), i < j ∧ j ≤ X ∧ si = .int .i64 (i : Int) ∧ sj = .int .i64 (j : Int) ∧ Hid (DelSt ns nm U g cap X zs w1 wr i j cur)) (fun _ sj _ => X - (intOf sj).toNat)
  case atStart => exact ⟨i, i + 1, zs, by omega, by omega, rfl, by go_num, HS.out⟩
  case round =>
    obtain ⟨i, j, cur, hij, hjX, rfl, rfl, HD⟩ := hrel
    have hgU : U ≤ g := (OwnsR.lt HD.out.own g (by simp [fpOf, Value.ownBlock])).1
    have hBU : Below U w1 wr := (Below.refl U w1).grown HD.out.grown HO.out.2.2.2 (fun k hk => by cases hk; exact hgU)
    have hj0 : (0 : Int) ≤ (j : Int) := by omega
    have hi0 : (0 : Int) ≤ (i : Int) := by omega
    have hi1 : (i : Int) < (X : Int) ∨ X ≤ i := by omega
    by_cases hlt : j < X
    · have hj1 : (j : Int) < (X : Int) := by omega
      have hiX2 : (i : Int) < (X : Int) := by omega
      have hjz : j < zs.length := by have := HX.out; omega
      have hjc : j < cur.length := by have := HD.out.len; omega
      obtain ⟨b, off, he, hb, c0⟩ := RowI.at HD.out.own.row j hjc
      cases he
      simp only [Nat.zero_add] at c0
      rw [HD.out.rest j (Nat.le_refl _) hjz hjc] at c0
      have hxj := HV.out.2 zs[j] (List.getElem_mem hjz)
      obtain ⟨x, hx⟩ : ∃ x : Nat, Hid (zs[j] = (x : Int)) := ⟨zs[j].toNat, (by show _ = _; omega)⟩
      rw [hx.out] at c0 hxj
      obtain ⟨r, hr⟩ : ∃ r, Hid (usesB ns nm (x : Int) = r) := ⟨_, (rfl : usesB ns nm (x : Int) = usesB ns nm (x : Int))⟩
      have cQ : Hid (Calls Tryz.prog 39 #[.int .i64 (x : Int), .pointer (some ⟨bp, 0, none⟩), .pointer (some ⟨bn, 0, none⟩)] wr fun e w' => e = .returned (.bool (!r)) ∧ ∃ m, w' = wr.drewN m) := by
        have := uses1_any ns nm bp bn na N nc U x wr (HO.out.2.2.1.keep hBU) (by omega)
        rw [hr.out] at this
        exact this
      go_wp2_with fail
      go_at_call 39
      refine Calls.mono cQ.out ?_
      rintro e w2 ⟨rfl, q, rfl⟩
      have HD2 : Hid (DelSt ns nm U g cap X zs w1 (wr.drewN q) i j cur) := HD.out.draw q
      generalize wr.drewN q = w2 at HD2 ⊢
      clear cQ c0 HD hBU
      cases r
      · have HD3 : Hid (DelSt ns nm U g cap X zs w1 w2 i (j + 1) cur) := HD2.out.skip hjz (by rw [hx.out]; exact hr.out)
        clear HD2
        go_wp2
        go_roundw
        case rel => first | exact ⟨i, j + 1, cur, by omega, by omega, rfl, by go_num, HD3⟩ | exact ⟨_, _, _, _, _, _, _, _, _, _, _, _, _, _, _, _, _, _, _, _, _, _, _, ⟨i, j + 1, cur, by omega, by omega, rfl, by go_num, HD3⟩, rfl⟩
        case measure => simp [intOf]; omega
      · have hic : i < cur.length := by have := HD2.out.len; omega
        have HD3 : Hid (DelSt ns nm U g cap X zs w1 (w2.setCell ⟨g, i, none⟩ (.int .i64 (x : Int))) (i + 1) (j + 1) (cur.set i (x : Int))) := by
          have h1 := HD2.out.keep hjz hic hij (by rw [hx.out]; exact hr.out)
          rw [hx.out] at h1
          exact h1
        obtain ⟨b, off, he, _, c1⟩ := RowI.at HD2.out.own.row i hic
        cases he
        simp only [Nat.zero_add] at c1
        have f1 : w2.frozen? ⟨g, i, none⟩ = false := World.ownsRow.frozenAt (by have h9 := HD2.out.own; rw [h9.capLe.1] at h9; exact h9) i
        obtain ⟨y, hy⟩ : ∃ y, Hid (cur[i] = y) := ⟨_, (rfl : cur[i] = cur[i])⟩
        rw [hy.out] at c1
        clear HD2
        go_wp2
        go_roundw
        case rel => first | exact ⟨i + 1, j + 1, cur.set i (x : Int), by omega, by omega, by go_num, by go_num, HD3⟩ | exact ⟨_, _, _, _, _, _, _, _, _, _, _, _, _, _, _, _, _, _, _, _, _, _, _, ⟨i + 1, j + 1, cur.set i (x : Int), by omega, by omega, by go_num, by go_num, HD3⟩, rfl⟩
        case measure => simp [intOf]; omega
    · have hjX2 : j = X := by omega
      subst hjX2
      have hiX2 : (i : Int) < (j : Int) := by omega
      have hiXl : (i : Int) ≤ (j : Int) := by omega
      have hown := HD.out.own
      have hcap := hown.capLe
      have hlen := HD.out.len
      have hicap : (i : Int) ≤ (cap : Int) := by omega
      have hjcap : (j : Int) ≤ (cap : Int) := by omega
      have hcl : ∀ ty, (Builtin.clear_ #[35] ty #[.slice (some ⟨g, i, none⟩) (j - i) (cap - i)]).run Tryz.prog wr = .ok (.tuple #[]) (wr.setCells g i (List.replicate (j - i) (.int .i64 0))) :=
        fun ty => Lib.run_clear_slice wr _ _ ty (.int .i64 0) Tryz.underlying35 Tryz.zeroValue3 rfl rfl g i _ _ (by omega) (fun t ht => by
          obtain ⟨b, off, he, _, c1⟩ := RowI.at hown.row (i + t) (by omega)
          cases he
          rw [Nat.zero_add] at c1
          rw [c1]
          rfl) (fun t ht => World.ownsRow.frozenAt (by have h9 := hown; rw [h9.capLe.1] at h9; exact h9) (i + t))
      have HZ : Hid (OwnsI (wr.setCells g i (List.replicate (j - i) (.int .i64 0))) U (.slice (some ⟨g, 0, none⟩) i cap) (usesF ns nm zs) ∧ Below U w (wr.setCells g i (List.replicate (j - i) (.int .i64 0)))) := by
        have h1 := OwnsI.cut hown i (by omega)
        rw [HD.out.done, List.take_of_length_le (by have := HX.out; omega)] at h1
        have hfl : (usesF ns nm zs).length = i := h1.capLe.1.symm
        refine ⟨OwnsI.past h1 _ _ (by omega), ?_⟩
        have h2 := (owns_setCells (List.replicate (j - i) (.int .i64 0)) _ i wr (by have h9 := hown; rw [h9.capLe.1] at h9; exact h9)).2
        have h3 : w1.grownBy (wr.setCells g i (List.replicate (j - i) (.int .i64 0))) (some g) := grown_trans HD.out.grown h2 (.inr rfl) (.inr rfl)
        exact HO.out.2.1.grown h3 HO.out.2.2.2 (fun k hk => by cases hk; exact hgU)
      clear HD hown hcap hlen hBU
      go_wp2
      go_ret
      exact ⟨⟨_, _, _, rfl, HZ.out.1⟩, HZ.out.2⟩

end Go.Proofs.YtjafneaaefpefaaGreat
