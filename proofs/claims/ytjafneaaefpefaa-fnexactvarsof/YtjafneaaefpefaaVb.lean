/-
  strings.Clone: the same text, in new memory.
  VarsOf, in the program: params, then what is let under the Body, each with a name of its own.
-/
import Derived.Test.YtjafneaaefpefaaChecked
import Derived.Test.YtjafneaaefpefaaKa
import Derived.Test.YtjafneaaefpefaaShelf
import Derived.Test.YtjafneaaefpefaaVa
import Derived.Test.YtjafneaaefpefaaPr
namespace Go.Proofs.Ytjafneaaefpefaa
open Go.RowKit

theorem Clone_any (s : ByteArray) (w : World) (hlim : s.size ≤ 281474976710656) :
    Calls Try.prog 84 #[.string s] w fun e w' => e = .returned (.string s) ∧ Below w.heap.size w w' := by
  go_enter Try.func84, Try.ntmps84
  go_wp2_with (go_at_call 103; refine (Try.stringslite_Clone s _ hlim).mono ?_; rintro e w1 ⟨rfl, hb1⟩)
  go_ret
  exact ⟨rfl, hb1⟩

end Go.Proofs.Ytjafneaaefpefaa

namespace Go.Proofs.Ytjafneaaefpefaa
open Go.RowKit

theorem isFn_any (v0 : Value) (fa : Option Addr) (F fcap : Nat) (fn : Int) (w : World) :
    Calls Try.prog 83 #[.agg #[v0, .slice fa F fcap], .int .i64 fn] w fun e w' => e = .returned (.bool (isIn fn 0 ((F : Int) - 1))) ∧ Below w.heap.size w w' := by
  by_cases h0 : 0 ≤ fn
  · by_cases h1 : fn < (F : Int)
    · have hE : Hid (isIn fn 0 ((F : Int) - 1) = true) := by
        show _ = _
        rw [isIn_iff]
        omega
      rw [hE.out]
      have d0 : decide ((0 : Int) ≤ fn) = true := by simpa using h0
      go_enter Try.func83, Try.ntmps83
      go_wp2
      go_ret
      exact ⟨rfl, by go_grown⟩
    · have hE : Hid (isIn fn 0 ((F : Int) - 1) = false) := by
        show _ = _
        simp [isIn]
        omega
      rw [hE.out]
      have d0 : decide ((0 : Int) ≤ fn) = true := by simpa using h0
      go_enter Try.func83, Try.ntmps83
      go_wp2
      go_ret
      exact ⟨rfl, by go_grown⟩
  · have hE : Hid (isIn fn 0 ((F : Int) - 1) = false) := by
      show _ = _
      simp [isIn]
      omega
    rw [hE.out]
    have d0 : decide ((0 : Int) ≤ fn) = false := by simpa using h0
    go_enter Try.func83, Try.ntmps83
    go_wp2
    go_ret
    exact ⟨rfl, by go_grown⟩

set_option maxRecDepth 100000 in
set_option maxHeartbeats 6400000 in
theorem implVarsOf_any (v0 v1 : Value) (p : Pg) (fn : Int) (w : World) (hR : RowPg w w.heap.size v0 v1 p) (hl : szPg p ≤ 1048576) :
    Calls Try.prog 44 #[.agg #[v0, v1], .int .i64 fn] w fun e w' => (∃ a cap, e = .returned (.slice a (varsOf p fn).length cap) ∧ OwnsV w' w.heap.size (.slice a (varsOf p fn).length cap) (varsOf p fn)) ∧ Below w.heap.size w w' := by
  obtain ⟨na, nc, rfl⟩ := hR.1.len
  obtain ⟨fa, fcap, rfl⟩ := hR.2.len
  obtain ⟨N, HN⟩ : ∃ N, Hid (p.nodes.length = N) := ⟨_, (rfl : p.nodes.length = p.nodes.length)⟩
  obtain ⟨F, HF⟩ : ∃ N, Hid (p.fns.length = N) := ⟨_, (rfl : p.fns.length = p.fns.length)⟩
  have HV : Hid (RowPg w w.heap.size (.slice na N nc) (.slice fa F fcap) p) := by rw [← HN.out, ← HF.out]; exact hR
  have HL : Hid (szRow szNd p.nodes ≤ 1048576 ∧ szRow szFc p.fns ≤ 1048576) := ⟨Nat.le_trans (le_szPg_nodes p) hl, Nat.le_trans (le_szPg_fns p) hl⟩
  have hNl : N ≤ 1048576 := by have := len_szRow szNd p.nodes; have := HN.out; have := HL.out.1; omega
  have hFl : F ≤ 1048576 := by have := len_szRow szFc p.fns; have := HF.out; have := HL.out.2; omega
  rw [HN.out, HF.out]
  clear hR hl
  have cL0 : Hid (∀ W, Calls Try.prog 83 #[.agg #[.slice na N nc, .slice fa F fcap], .int .i64 fn] W fun e w' => e = .returned (.bool (isIn fn 0 ((F : Int) - 1))) ∧ Below W.heap.size W w') := fun W => isFn_any _ fa F fcap fn W
  by_cases hin : 0 ≤ fn ∧ fn ≤ (F : Int) - 1
  rotate_left
  · have hI : isIn fn 0 ((F : Int) - 1) = false := by
      cases hc : isIn fn 0 ((F : Int) - 1)
      · rfl
      · exact absurd ((isIn_iff _ _ _).mp hc) hin
    have HE : Hid (varsOf p fn = []) := by
      show _ = _
      unfold varsOf
      rw [HF.out, hI]
      rfl
    rw [HE.out]
    rw [hI] at cL0
    clear HV hin hI
    go_enter Try.func44, Try.ntmps44
    go_wp2_with fail
    go_at_call 83
    refine Calls.mono (cL0.out _) ?_
    rintro e w1 ⟨rfl, hb⟩
    have HB : Hid (Below w.heap.size w w1) := by
      refine Below.trans ?_ (hb.mono (by simp))
      go_grown
    clear hb
    go_wp2
    go_ret
    exact ⟨⟨none, 0, rfl, ownsR_nil _ _ _ _ _⟩, HB.out⟩
  obtain ⟨m, rfl⟩ : ∃ m : Nat, fn = (m : Int) := ⟨fn.toNat, by omega⟩
  have hI : isIn (m : Int) 0 ((F : Int) - 1) = true := (isIn_iff _ _ _).mpr hin
  rw [hI] at cL0
  have hmF : m < F := by omega
  have hmf : m < p.fns.length := by have := HF.out; omega
  have hm0 : (0 : Int) ≤ (m : Int) := by omega
  have hm1 : (m : Int) < (F : Int) := by omega
  obtain ⟨b, off, pv, rfl, hb, c0, c1, c2, c3, c4, hP⟩ := FcR.at HV.out.2 m hmf
  have HE : Hid (varsOf p (m : Int) = varsIn p.nodes p.fns[m]) := by
    show _ = _
    unfold varsOf
    rw [HF.out, hI, if_pos rfl]
    simp [List.getD, hmf]
  have hqs : szFc p.fns[m] ≤ 1048576 := Nat.le_trans (mem_szRow szFc (List.getElem_mem hmf)) HL.out.2
  obtain ⟨q, hq⟩ : ∃ q, Hid (p.fns[m] = q) := ⟨_, (rfl : p.fns[m] = p.fns[m])⟩
  rw [hq.out] at c0 c2 c3 c4 hP HE hqs
  rw [HE.out]
  obtain ⟨fn, fp, fr, fb, ft⟩ := q
  obtain ⟨pa, pc, rfl⟩ := hP.len
  simp only at c0 c1 c2 c3 c4 hP
  have hPs : szRow szPm fp ≤ 1048576 := Nat.le_trans (le_szFc_params ⟨fn, fp, fr, fb, ft⟩) hqs
  have HPs : Hid (szRow szPm fp ≤ 1048576) := hPs
  have hK : fp.length ≤ 1048576 := by
    have h2 := len_szRow szPm fp
    omega
  obtain ⟨K, HK⟩ : ∃ K, Hid (fp.length = K) := ⟨_, (rfl : fp.length = fp.length)⟩
  rw [HK.out] at c1 hP hK
  have HP : Hid (PmR.Row w w.heap.size (.slice pa K pc) fp) := hP
  have hkb : b < w.heap.size := hb
  obtain ⟨xs, hxs⟩ : ∃ xs, Hid (underL p.nodes fb = xs) := ⟨_, (rfl : underL p.nodes fb = underL p.nodes fb)⟩
  obtain ⟨X, HX⟩ : ∃ X, Hid (xs.length = X) := ⟨_, (rfl : xs.length = xs.length)⟩
  have cU : Hid (∀ W, Below w.heap.size w W → Calls Try.prog 32 #[.agg #[.slice na N nc, .slice (some ⟨b, off, none⟩) F fcap], .int .i64 fb] W fun e w' => (∃ g cap, e = .returned (.slice g X cap) ∧ OwnsI w' W.heap.size (.slice g X cap) xs ∧ X ≤ 1048576) ∧ Below W.heap.size W w') := fun W hW => by
    refine (implUnder_any _ _ p.nodes fb W ((HV.out.1.keep hW).up hW.size) HL.out.1).mono ?_
    rintro e w' ⟨⟨v, ys, he, ho, ha, hx⟩, hb⟩
    obtain rfl := underAns_one ha (underAns_L p.nodes fb)
    obtain ⟨a, cap, rfl⟩ := RowR.len ho.row
    rw [hxs.out] at ho hx he
    rw [HX.out] at ho hx he
    exact ⟨⟨a, cap, he, ho, hx⟩, hb⟩
  have HIn : Hid (∀ x ∈ xs, 0 ≤ x ∧ x < (p.nodes.length : Int)) := fun x hx => by
    rw [← hxs.out] at hx
    have := underL_in hx
    exact ⟨this.1, this.2.2.1⟩
  have HEnd : Hid (varsIn p.nodes ⟨fn, fp, fr, fb, ft⟩ = fp.map parV ++ lets p.nodes xs) := by
    show _ = _
    unfold varsIn
    rw [hxs.out]
  have HC3 : Hid (w.cell? ⟨b, off + m * 5 + 1, none⟩ = some (.slice pa K pc) ∧ w.cell? ⟨b, off + m * 5 + 3, none⟩ = some (.int .i64 fb)) := ⟨c1, c3⟩
  clear hb hqs hP hPs c0 c1 c2 c3 c4
  go_enter Try.func44, Try.ntmps44
  go_wp2_with fail
  go_at_call 83
  refine Calls.mono (cL0.out _) ?_
  rintro e w1 ⟨rfl, hb1⟩
  have B1 : Hid (Box w (.cells #[.slice na N nc, .slice (some ⟨b, off, none⟩) F fcap] 39) w1) := (Box.first _ _).next hb1
  have H0 : Hid (VSt w w.heap.size #[.slice na N nc, .slice (some ⟨b, off, none⟩) F fcap] #[.slice na N nc, .slice (some ⟨b, off, none⟩) F fcap] 39 39 w1 (.slice none 0 0) []) := by
    have h1 := (hb1.block w.heap.size (by simp)).trans (heap_alloc_new w (.cells #[.slice na N nc, .slice (some ⟨b, off, none⟩) F fcap] 39))
    exact ⟨ownsR_nil _ _ _ _ _, B1.out.below, h1, h1, by decide, by decide⟩
  have x1 := B1.out.cell 1
  have d1 := (B1.out.below.cell (p := ⟨b, off + m * 5 + 1, none⟩) hkb).trans HC3.out.1
  simp at x1
  clear hb1 cL0 B1
  go_wp2_with fail
  go_loopw [5, 22] (fun o i wr => ∃ (t : Nat) (oa : Option Addr) (oc : Nat), t ≤ K ∧ i = .int .i64 (t : Int) ∧ o = .slice oa t oc ∧ Hid (VSt w w.heap.size #[.slice na N nc, .slice (some ⟨b, off, none⟩) F fcap] #[.slice na N nc, .slice (some ⟨b, off, none⟩) F fcap] 39 39 wr (.slice oa t oc) ((fp.take t).map parV))) (fun _ i _ => K - (intOf i).toNat)
  case atStart => exact ⟨0, none, 0, Nat.zero_le _, rfl, rfl, H0.out⟩
  case round =>
    obtain ⟨t, oa, oc, ht, rfl, rfl, HJ⟩ := hrel
    clear H0 x1 d1
    have hsz := HJ.out.bel.size
    by_cases hlt : t < K
    · have ht0 : (0 : Int) ≤ (t : Int) := by omega
      have ht1 : (t : Int) < (K : Int) := by omega
      have htp : t < fp.length := by have := HK.out; omega
      obtain ⟨pb, po, rfl, hpb, e0, e1⟩ := PmR.at HP.out t htp
      have hnl : fp[t].name.size ≤ 281474976710656 := Nat.le_trans (Nat.le_trans (Nat.le_trans (le_szPm_name fp[t]) (mem_szRow szPm (List.getElem_mem htp))) HPs.out) (by omega)
      obtain ⟨x, hx⟩ : ∃ x, Hid (fp[t] = x) := ⟨_, (rfl : fp[t] = fp[t])⟩
      rw [hx.out] at e0 e1 hnl
      have d0 := (HJ.out.bel.cell (p := ⟨pb, po + t * 2, none⟩) hpb).trans e0
      have d1 := (HJ.out.bel.cell (p := ⟨pb, po + t * 2 + 1, none⟩) hpb).trans e1
      obtain ⟨xn, xt⟩ := x
      simp only at d0 d1 hnl
      have HNx : Hid ((fp.take (t + 1)).map parV = (fp.take t).map parV ++ [⟨xn, xt, -1⟩]) := by
        show _ = _
        rw [List.take_succ_eq_append_getElem htp, List.map_append, hx.out]
        rfl
      have hXl : ((fp.take t).map parV).length = t := by
        rw [List.length_map, List.length_take]
        omega
      have hpl : ((fp.take t).map parV).length ≤ 10000000 := by omega
      have HBn : Hid (Below wr.heap.size wr (wr.alloc (.cells #[.string xn, .int .i64 xt] 107))) := by show Below _ _ _; go_grown
      have HX1 : Hid (Box wr (.cells #[.string xn, .int .i64 xt] 107) (wr.alloc (.cells #[.string xn, .int .i64 xt] 107))) := Box.first _ _
      clear e0 e1
      go_wp2_with fail
      generalize hWn : wr.alloc (.cells #[.string xn, .int .i64 xt] 107) = Wn at HX1 HBn ⊢
      have x0 : Wn.cell? ⟨wr.heap.size, 0, none⟩ = some (.string xn) := HX1.out.cell 0
      have x1 : Wn.cell? ⟨wr.heap.size, 1, none⟩ = some (.int .i64 xt) := HX1.out.cell 1
      have hlw : wr.heap.size < Wn.heap.size := HX1.out.lt
      clear hWn d0 d1
      go_region_held3 (fun w' => w'.cell? ⟨wr.heap.size, 0, none⟩ = some (.string xn) ∧ w'.cell? ⟨wr.heap.size, 1, none⟩ = some (.int .i64 xt)) (first | exact ⟨u0, u1⟩ | exact ⟨r0, r1⟩ | exact ⟨x0, x1⟩ | go_keep) (first | (go_at_call 84; refine Calls.mono (Clone_any xn _ hnl) ?_; rintro e wC ⟨rfl, hbC⟩; have hbC1 : Below Wn.heap.size Wn wC := (Below.refl _ _).drew.trans hbC; have r0 := (hbC1.cell (p := ⟨wr.heap.size, 0, none⟩) hlw).trans x0; have r1 := (hbC1.cell (p := ⟨wr.heap.size, 1, none⟩) hlw).trans x1; have hlC : wr.heap.size < wC.heap.size := Nat.lt_of_lt_of_le hlw hbC1.size; have hBC : Below wr.heap.size wr wC := HBn.out.trans (hbC1.mono HBn.out.size)) | (refine step_appendRA (enc := vrC) (k := 3) vrC_len rfl _ _ 54 rfl w.heap.size 109 _ 32 Try.underlying54 Try.infoVr rfl (by decide) (OwnsR.below HJ.out.own (hBC.alloc hBC.size (.cells #[.string xn, .int .i64 xt, .int .i64 (-1)] 109))) ⟨xn, xt, -1⟩ (vrC_ones _) wC.heap.size (0, 0) (heap_alloc_new _ _) rfl rfl hpl (by omega) (by have := hBC.size; simp; omega) ?_; intro v5 w5 hown5 hg5 hat5 hv5; obtain ⟨g5, cap5, rfl⟩ := hv5; have h5b := fun (j : Nat) (hj : j < wC.heap.size) (hne : some j ≠ (Value.slice oa t oc).ownBlock) => (hg5.block j (by simp; omega) hne).trans (Below.heap_alloc wC (.cells #[.string xn, .int .i64 xt, .int .i64 (-1)] 109) j hj); have hneq : some wr.heap.size ≠ (Value.slice oa t oc).ownBlock := (fun e => by have := (OwnsR.lt HJ.out.own wr.heap.size (by simp [fpOf, ← e])).2; omega); have h5c := h5b wr.heap.size hlC hneq; have u0 : w5.cell? ⟨wr.heap.size, 0, none⟩ = some (.string xn) := (cell_eq h5c 0).trans r0; have u1 : w5.cell? ⟨wr.heap.size, 1, none⟩ = some (.int .i64 xt) := (cell_eq h5c 1).trans r1))
      have HJ5 : Hid (VSt w w.heap.size #[.slice na N nc, .slice (some ⟨b, off, none⟩) F fcap] #[.slice na N nc, .slice (some ⟨b, off, none⟩) F fcap] 39 39 w5 (.slice (some ⟨g5, 0, none⟩) (t + 1) cap5) ((fp.take (t + 1)).map parV)) := by
        have h5 := (HJ.out.below (hBC.alloc hBC.size (.cells #[.string xn, .int .i64 xt, .int .i64 (-1)] 109))).grown hg5 hown5
        rw [HNx.out]
        rw [hXl] at h5
        exact h5
      have HXl : Hid (((fp.take t).map parV).length = t) := hXl
      clear hown5 hg5 hat5 hXl u0 u1 r0 r1 x0 x1 hbC hbC1 hBC h5b h5c hneq HNx HJ HX1 HBn
      go_wp2
      go_roundw
      case rel => exact ⟨t + 1, some ⟨g5, 0, none⟩, cap5, by omega, by go_num, by first | rw [HXl.out] | (have := HK.out; simp; omega), HJ5⟩
      case measure => simp [intOf]; omega
    · have htK : t = K := by omega
      subst htK
      have H1 : Hid (VSt w w.heap.size #[.slice na N nc, .slice (some ⟨b, off, none⟩) F fcap] #[.slice na N nc, .slice (some ⟨b, off, none⟩) F fcap] 39 39 wr (.slice oa t oc) (fp.map parV)) := by
        have h1 := HJ.out
        rw [List.take_of_length_le (by have := HK.out; omega)] at h1
        exact h1
      have f3 := (HJ.out.bel.cell (p := ⟨b, off + m * 5 + 3, none⟩) hkb).trans HC3.out.2
      have x0 := cell_at HJ.out.box 0
      have x1 := cell_at HJ.out.box 1
      simp at x0 x1
      have hbr : b < wr.heap.size := by omega
      have hwr : w.heap.size < wr.heap.size := HJ.out.lt
      clear HJ HC3
      go_wp2_with fail
      go_region_held3 (fun w' => (w'.cell? ⟨w.heap.size, 0, none⟩ = some (.slice na N nc) ∧ w'.cell? ⟨w.heap.size, 1, none⟩ = some (.slice (some ⟨b, off, none⟩) F fcap)) ∧ w'.cell? ⟨b, off + m * 5 + 3, none⟩ = some (.int .i64 fb)) (first | exact ⟨⟨x0, x1⟩, f3⟩ | exact ⟨⟨(hb3.cell (p := ⟨w.heap.size, 0, none⟩) hwr).trans x0, (hb3.cell (p := ⟨w.heap.size, 1, none⟩) hwr).trans x1⟩, (hb3.cell (p := ⟨b, off + m * 5 + 3, none⟩) hbr).trans f3⟩ | go_keep) ((go_at_call 32; refine Calls.mono (cU.out _ H1.out.bel.drew) ?_; rintro e w3 ⟨⟨gs, cs, rfl, hos, hxl⟩, hb3⟩))
      have H3 : Hid (VSt w w.heap.size #[.slice na N nc, .slice (some ⟨b, off, none⟩) F fcap] #[.slice na N nc, .slice (some ⟨b, off, none⟩) F fcap] 39 39 w3 (.slice oa t oc) (fp.map parV)) := H1.out.below ((Below.refl _ _).drew.trans hb3)
      have HO3 : Hid (OwnsI w3 w.heap.size (.slice gs X cs) xs) := owns_base hos H1.out.bel.drew.size
      clear hos hb3 cU H1 f3 x0 x1
      go_wp2_with fail
      go_loopw [5, 45] (fun o i wr => ∃ (s ql : Nat) (qg : Option Addr) (qc : Nat), s ≤ X ∧ i = .int .i64 (s : Int) ∧ o = .slice qg ql qc ∧ ql ≤ 2097152 ∧ Hid (VSt w w.heap.size #[.slice na N nc, .slice (some ⟨b, off, none⟩) F fcap] #[.slice na N nc, .slice (some ⟨b, off, none⟩) F fcap] 39 39 wr (.slice qg ql qc) (fp.map parV ++ lets p.nodes (xs.take s)) ∧ OwnsI wr w.heap.size (.slice gs X cs) xs ∧ ql = (fp.map parV ++ lets p.nodes (xs.take s)).length)) (fun _ i _ => X - (intOf i).toNat)
      case atStart => exact ⟨0, _, _, _, Nat.zero_le _, rfl, rfl, by omega, by simpa [lets] using H3.out, HO3.out, by simp [lets]; have := HK.out; omega⟩
      case round =>
        obtain ⟨s, ql, qg, qc, hs, rfl, rfl, hql, HQ⟩ := hrel
        have x0 := cell_at HQ.out.1.box 0
        simp at x0
        have hsz := HQ.out.1.bel.size
        by_cases hsl : s < X
        · have hs0 : (0 : Int) ≤ (s : Int) := by omega
          have hs1 : (s : Int) < (X : Int) := by omega
          have hsx : s < xs.length := by have := HX.out; omega
          obtain ⟨ib, io, rfl, hib, e0⟩ := RowI.at (RowI.up HQ.out.2.1.row (Nat.le_refl _)) s hsx
          have hxj := HIn.out xs[s] (List.getElem_mem hsx)
          obtain ⟨j, hj⟩ : ∃ j : Nat, Hid (xs[s] = (j : Int)) := ⟨xs[s].toNat, (by show _ = _; omega)⟩
          rw [hj.out] at e0 hxj
          have hjN : j < N := by have := HN.out; omega
          have hjl : j < p.nodes.length := by have := HN.out; omega
          have hj0 : (0 : Int) ≤ (j : Int) := by omega
          have hj1 : (j : Int) < (N : Int) := by omega
          have hLT : Hid (lets p.nodes (xs.take (s + 1)) = lets p.nodes (xs.take s) ++ (if (p.nodes.getD j nd0).kind = 13 then [letV p.nodes (j : Int)] else [])) := by
            show _ = _
            rw [lets_take p.nodes xs s hsx, hj.out, Int.toNat_natCast]
          have hns : p.nodes[j].name.size ≤ 281474976710656 := Nat.le_trans (Nat.le_trans (Nat.le_trans (le_szNd_name p.nodes[j]) (mem_szRow szNd (List.getElem_mem hjl))) HL.out.1) (by omega)
          obtain ⟨nb, no, ka, kc, rfl, hnb, n0, n1, n2, n3, _⟩ := RowNd.at HV.out.1 j hjl
          have hgd : p.nodes.getD j nd0 = p.nodes[j] := by simp [List.getD, hjl]
          rw [hgd] at hLT
          have hlv : letV p.nodes (j : Int) = ⟨p.nodes[j].name, 0, (j : Int)⟩ := by
            unfold letV
            rw [Int.toNat_natCast, hgd]
          rw [hlv] at hLT
          obtain ⟨nx, hnx⟩ : ∃ nx, Hid (p.nodes[j].name = nx) := ⟨_, (rfl : p.nodes[j].name = p.nodes[j].name)⟩
          obtain ⟨kx, hkx⟩ : ∃ kx, Hid (p.nodes[j].kind = kx) := ⟨_, (rfl : p.nodes[j].kind = p.nodes[j].kind)⟩
          obtain ⟨mx, hmx⟩ : ∃ mx, Hid (p.nodes[j].num = mx) := ⟨_, (rfl : p.nodes[j].num = p.nodes[j].num)⟩
          obtain ⟨kn, hkn⟩ : ∃ kn, Hid (p.nodes[j].kids.length = kn) := ⟨_, (rfl : p.nodes[j].kids.length = p.nodes[j].kids.length)⟩
          rw [hkx.out] at n0 hLT
          rw [hmx.out] at n1
          rw [hnx.out] at n2 hLT hns
          rw [hkn.out] at n3
          have d0 := (HQ.out.1.bel.cell (p := ⟨nb, no + j * 4, none⟩) hnb).trans n0
          have d1 := (HQ.out.1.bel.cell (p := ⟨nb, no + j * 4 + 1, none⟩) hnb).trans n1
          have d2 := (HQ.out.1.bel.cell (p := ⟨nb, no + j * 4 + 2, none⟩) hnb).trans n2
          have d3 := (HQ.out.1.bel.cell (p := ⟨nb, no + j * 4 + 3, none⟩) hnb).trans n3
          clear n0 n1 n2 n3 hgd hlv hxj
          have HBn : Hid (Below wr.heap.size wr (wr.alloc (.cells #[.int .i64 kx, .int .i64 mx, .string nx, .slice ka kn kc] 70))) := by show Below _ _ _; go_grown
          by_cases hk : kx = 13
          · rw [if_pos hk] at hLT
            have HNx : Hid (fp.map parV ++ lets p.nodes (xs.take (s + 1)) = (fp.map parV ++ lets p.nodes (xs.take s)) ++ [⟨nx, 0, (j : Int)⟩]) := by
              show _ = _
              rw [hLT.out, List.append_assoc]
            have hpl : (fp.map parV ++ lets p.nodes (xs.take s)).length ≤ 10000000 := by rw [← HQ.out.2.2]; omega
            have hql2 : ql + 1 ≤ 2097152 := by
              have h1 := lets_len p.nodes (xs.take (s + 1))
              rw [hLT.out, List.length_append, List.length_singleton, List.length_take] at h1
              rw [HQ.out.2.2, List.length_append, List.length_map]
              have := HK.out
              omega
            clear hLT
            subst hk
            go_wp2_with fail
            go_at_call 84
            refine Calls.mono (Clone_any nx _ hns) ?_
            rintro e wC ⟨rfl, hbC⟩
            have hBC : Below wr.heap.size wr wC := HBn.out.trans (hbC.mono HBn.out.size)
            have HC : Hid (VSt w w.heap.size #[.slice (some ⟨nb, no, none⟩) N nc, .slice (some ⟨b, off, none⟩) F fcap] #[.slice (some ⟨nb, no, none⟩) N nc, .slice (some ⟨b, off, none⟩) F fcap] 39 39 wC (.slice qg ql qc) (fp.map parV ++ lets p.nodes (xs.take s)) ∧ OwnsI wC w.heap.size (.slice (some ⟨ib, io, none⟩) X cs) xs) := ⟨HQ.out.1.below hBC, OwnsR.below HQ.out.2.1 hBC⟩
            have HOw : Hid (OwnsR vrC 3 wC w.heap.size 109 (.slice qg ql qc) (fp.map parV ++ lets p.nodes (xs.take s))) := HC.out.1.own
            have hBs : w.heap.size ≤ wC.heap.size := HC.out.1.bel.size
            clear hbC d0 d1 d2 d3 x0 e0
            go_wp2_with (at_builtin; go_must (refine appendRA (enc := vrC) (k := 3) vrC_len rfl _ _ 54 rfl w.heap.size 109 _ 32 Try.underlying54 Try.infoVr rfl (by decide) HOw.out ⟨nx, 0, (j : Int)⟩ (vrC_ones _) rfl (by first | rfl | (simp [Act.eval]; done)) hpl (by omega) hBs ?_); intro v5 w5 hown5 hg5 hat5 hv5; obtain ⟨g5, cap5, rfl⟩ := hv5)
            have hneg : (Value.slice (some ⟨ib, io, none⟩) X cs).ownBlock ≠ (Value.slice qg ql qc).ownBlock := by
              rcases types_apart HC.out.2 HOw.out (by decide) with h1 | h1
              · rcases OwnsR.form HC.out.2 with ⟨h2, _⟩ | ⟨g, c, h2, _⟩
                · cases h2
                · rw [h2] at h1
                  cases h1
              · exact h1
            have HJ5 : Hid (VSt w w.heap.size #[.slice (some ⟨nb, no, none⟩) N nc, .slice (some ⟨b, off, none⟩) F fcap] #[.slice (some ⟨nb, no, none⟩) N nc, .slice (some ⟨b, off, none⟩) F fcap] 39 39 w5 (.slice (some ⟨g5, 0, none⟩) (ql + 1) cap5) (fp.map parV ++ lets p.nodes (xs.take (s + 1))) ∧ OwnsI w5 w.heap.size (.slice (some ⟨ib, io, none⟩) X cs) xs ∧ ql + 1 = (fp.map parV ++ lets p.nodes (xs.take (s + 1))).length) := by
              rw [HNx.out]
              have HF5 := HC.out.1.grown hg5 hown5
              refine ⟨?_, OwnsR.kept HC.out.2 hg5 (.inr hneg), ?_⟩
              · rw [← HQ.out.2.2] at HF5
                exact HF5
              · rw [List.length_append (bs := [_]), ← HQ.out.2.2]
                rfl
            have HQL : Hid ((fp.map parV ++ lets p.nodes (xs.take s)).length = ql) := HQ.out.2.2.symm
            clear hown5 hg5 hat5 hneg hBC HC HOw hBs HNx HQ HBn
            go_wp2
            go_roundw
            case rel => exact ⟨s + 1, ql + 1, some ⟨g5, 0, none⟩, cap5, by omega, by go_num, by first | rw [HQL.out] | (have := HQL.out; simp at this; simp; omega), hql2, HJ5⟩
            case measure => simp [intOf]; omega
          · rw [if_neg hk, List.append_nil] at hLT
            have HJ5 : Hid (VSt w w.heap.size #[.slice (some ⟨nb, no, none⟩) N nc, .slice (some ⟨b, off, none⟩) F fcap] #[.slice (some ⟨nb, no, none⟩) N nc, .slice (some ⟨b, off, none⟩) F fcap] 39 39 (wr.alloc (.cells #[.int .i64 kx, .int .i64 mx, .string nx, .slice ka kn kc] 70)) (.slice qg ql qc) (fp.map parV ++ lets p.nodes (xs.take (s + 1))) ∧ OwnsI (wr.alloc (.cells #[.int .i64 kx, .int .i64 mx, .string nx, .slice ka kn kc] 70)) w.heap.size (.slice (some ⟨ib, io, none⟩) X cs) xs ∧ ql = (fp.map parV ++ lets p.nodes (xs.take (s + 1))).length) := by
              rw [hLT.out]
              exact ⟨HQ.out.1.below HBn.out, OwnsR.below HQ.out.2.1 HBn.out, HQ.out.2.2⟩
            clear HQ hLT HBn
            go_wp2
            go_roundw
            case rel => exact ⟨s + 1, ql, qg, qc, by omega, by go_num, rfl, hql, HJ5⟩
            case measure => simp [intOf]; omega
        · have HZ : Hid (OwnsV wr w.heap.size (.slice qg ql qc) (varsIn p.nodes ⟨fn, fp, fr, fb, ft⟩) ∧ Below w.heap.size w wr ∧ (varsIn p.nodes ⟨fn, fp, fr, fb, ft⟩).length = ql) := by
            have h1 := HQ.out
            rw [List.take_of_length_le (by have := HX.out; omega), ← HEnd.out] at h1
            exact ⟨h1.1.own, h1.1.bel, h1.2.2.symm⟩
          clear HQ x0
          go_wp2
          go_ret
          refine ⟨⟨qg, qc, ?_, ?_⟩, HZ.out.2.1⟩
          · rw [HZ.out.2.2]
            rfl
          · rw [HZ.out.2.2]
            exact HZ.out.1

end Go.Proofs.Ytjafneaaefpefaa
