/-
  Whose names, in the program: a whole function.
  NamesRight, in the program.
  NamesRight: the model's answer is the program's.
-/
import Derived.Test.YtjafneaaefpefaaGreatSa
import Derived.Test.YtjafneaaefpefaaGreatSd
import Derived.Test.YtjafneaaefpefaaGreatPa
import Derived.Test.YtjafneaaefpefaaGreatVb
import Derived.Test.YtjafneaaefpefaaGreatPr
import Derived.Test.YtjafneaaefpefaaGreatPb
namespace Go.Proofs.YtjafneaaefpefaaGreat
open Go.RowKit Go.Maps Go.WideMaps

/-- What the program asks of a function. -/
def seesB (p : Pg) (fn : Nat) : Bool :=
  let f := p.fns.getD fn fc1
  let r := seeL (see p (fn : Int)) (p.nodes.getD f.body.toNat nd0).kids (f.params.map Pm.name)
  r.1 && (decide (f.ret = -1) || (see p (fn : Int) f.ret.toNat r.2).1)

set_option maxRecDepth 100000 in
set_option maxHeartbeats 12800000 in
theorem seesAll_any (B : Nat) (v0 v1 : Value) (p : Pg) (t : Nat) (w : World) (hB : B ≤ w.heap.size) (hR : RowPg w B v0 v1 p) (hp : programOk p = true) (htf : t < p.fns.length) :
    Calls Tryz.prog 28 #[.agg #[v0, v1], .int .i64 (t : Int)] w fun e w' => e = .returned (.bool (seesB p t)) ∧ Below w.heap.size w w' := by
  obtain ⟨na, nc, rfl⟩ := hR.1.len
  obtain ⟨fa, fcap, rfl⟩ := hR.2.len
  obtain ⟨N, HN⟩ : ∃ N, Hid (p.nodes.length = N) := ⟨_, (rfl : p.nodes.length = p.nodes.length)⟩
  obtain ⟨F, HF⟩ : ∃ N, Hid (p.fns.length = N) := ⟨_, (rfl : p.fns.length = p.fns.length)⟩
  have hpl := prog_last hp
  have hfr := fnRight hp htf
  have hpf := prog_fns hp
  have HP : Hid (programOk p = true) := hp
  rw [HN.out, HF.out] at hR ⊢
  have ht0 : (0 : Int) ≤ (t : Int) := by omega
  have ht1 : (t : Int) < (F : Int) := by have := HF.out; omega
  obtain ⟨b, off, pv, rfl, hbw, c0, c1, c2, c3, c4, hPm⟩ := FcR.at hR.2 t htf
  have hseen : Hid (seesB p t = ((seeL (see p (t : Int)) (p.nodes.getD p.fns[t].body.toNat nd0).kids (p.fns[t].params.map Pm.name)).1 && (decide (p.fns[t].ret = -1) || (see p (t : Int) p.fns[t].ret.toNat (seeL (see p (t : Int)) (p.nodes.getD p.fns[t].body.toNat nd0).kids (p.fns[t].params.map Pm.name)).2).1))) := by
    show _ = _
    unfold seesB
    have : p.fns.getD t fc1 = p.fns[t] := by simp [List.getD, htf]
    simp only [this]
  obtain ⟨q, hq⟩ : ∃ q, Hid (p.fns[t] = q) := ⟨_, (rfl : p.fns[t] = p.fns[t])⟩
  have hpsz : Hid (∀ x ∈ p.fns[t].params, x.name.size ≤ 1000000) := fun x hx => by
    have h1 := (fn_facts hp htf).pars
    rw [show p.fns.getD t fc0 = p.fns[t] by simp [List.getD, htf]] at h1
    have := h1 x hx
    omega
  rw [hq.out] at c0 c2 c3 c4 hPm hfr hseen hpsz
  obtain ⟨fnn, fp, fr, fb, ft⟩ := q
  obtain ⟨pa, pc, rfl⟩ := hPm.len
  have hfew := hfr.few
  have hbody := hfr.body
  have hret := hfr.ret
  simp only at c0 c1 c2 c3 c4 hPm hfew hbody hret hseen hpsz
  obtain ⟨K, HK⟩ : ∃ K, Hid (fp.length = K) := ⟨_, (rfl : fp.length = fp.length)⟩
  rw [HK.out] at c1 hPm hfew
  obtain ⟨bd, rfl⟩ : ∃ bd : Nat, fb = (bd : Int) := ⟨fb.toNat, by omega⟩
  rw [Int.toNat_natCast] at hseen
  have hbdN : bd < N := by have := HN.out; omega
  have HR : Hid (RowPg w B (.slice na N nc) (.slice (some ⟨b, off, none⟩) F fcap) p ∧ PmR.Row w B (.slice pa K pc) fp) := ⟨hR, hPm⟩
  have HC : Hid (w.cell? ⟨b, off + t * 5 + 1, none⟩ = some (.slice pa K pc) ∧ w.cell? ⟨b, off + t * 5 + 3, none⟩ = some (.int .i64 (bd : Int)) ∧ w.cell? ⟨b, off + t * 5 + 4, none⟩ = some (.int .i64 ft)) := ⟨c1, c3, c4⟩
  obtain ⟨R, hRR⟩ : ∃ R, Hid (seesB p t = R) := ⟨_, (rfl : seesB p t = _)⟩
  rw [hRR.out] at hseen ⊢
  clear hR c0 c1 c2 c3 c4 hPm hfr hp hq
  obtain ⟨w0, hw0⟩ : ∃ w0, Hid (((w.alloc (.cells #[.slice na N nc, .slice (some ⟨b, off, none⟩) F fcap] 31)).alloc (.map #[] 0)).alloc (.cells #[.slice na N nc, .slice (some ⟨b, off, none⟩) F fcap, .int .i64 (t : Int), .map (some (w.heap.size + 1))] 91) = w0) := ⟨_, (rfl : World.alloc _ _ = _)⟩
  have HS0 : Hid ((∃ n', Sight w0 (w.heap.size + 1 + 1) (w.heap.size + 1) (.slice na N nc) (.slice (some ⟨b, off, none⟩) F fcap) (t : Int) ((fp.take 0).map Pm.name) n' ∧ n' ≤ 0) ∧ Box w (.cells #[.slice na N nc, .slice (some ⟨b, off, none⟩) F fcap] 31) w0) := by
    rw [← hw0.out]
    refine ⟨⟨0, ⟨?_, by omega, _, (World.ownsMap.alloc (by have h1 := World.ownsMap_made (w.alloc (.cells #[.slice na N nc, .slice (some ⟨b, off, none⟩) F fcap] 31)) Tryz.prog 9 (unitElem (H := Unit)); simpa using h1) _), fun nm => ?_⟩, Nat.le_refl _⟩, ((Box.first _ _).alloc _).alloc _⟩
    · have h1 := heap_alloc_new ((w.alloc (.cells #[.slice na N nc, .slice (some ⟨b, off, none⟩) F fcap] 31)).alloc (.map #[] 0)) (.cells #[.slice na N nc, .slice (some ⟨b, off, none⟩) F fcap, .int .i64 (t : Int), .map (some (w.heap.size + 1))] 91)
      simpa using h1
    · simp [scHas, Maps.has]
  have hmm := @run_makeMap Tryz.prog
  have d1 := (HS0.out.2.below.cell (p := ⟨b, off + t * 5 + 1, none⟩) (Nat.lt_of_lt_of_le hbw hB)).trans HC.out.1
  rw [← hw0.out] at d1
  go_enter Tryz.func28, Tryz.ntmps28
  go_wp2_with fail
  rw [hw0.out]
  go_loopw [19] (fun i wr => ∃ u : Nat, u ≤ K ∧ i = .int .i64 (u : Int) ∧ Hid ((∃ n', Sight wr (w.heap.size + 1 + 1) (w.heap.size + 1) (.slice na N nc) (.slice (some ⟨b, off, none⟩) F fcap) (t : Int) ((fp.take u).map Pm.name) n' ∧ n' ≤ u) ∧ Box w (.cells #[.slice na N nc, .slice (some ⟨b, off, none⟩) F fcap] 31) wr)) (fun i _ => K - (intOf i).toNat)
  case atStart => exact ⟨0, Nat.zero_le _, rfl, HS0.out⟩
  case round =>
    obtain ⟨u, hu, rfl, HS⟩ := hrel
    clear HS0 d1 hw0
    have x0 := HS.out.2.cell 0
    have x1 := HS.out.2.cell 1
    simp at x0 x1
    by_cases hlu : u < K
    · have hu0 : (0 : Int) ≤ (u : Int) := by omega
      have hu1 : (u : Int) < (K : Int) := by omega
      have hul : u < fp.length := by have := HK.out; omega
      obtain ⟨pb, po, rfl, hpb, e0, e1⟩ := PmR.at HR.out.2 u hul
      have hxs := hpsz.out fp[u] (List.getElem_mem hul)
      obtain ⟨x, hx⟩ : ∃ x, Hid (fp[u] = x) := ⟨_, (rfl : fp[u] = fp[u])⟩
      have HNx : Hid ((fp.take (u + 1)).map Pm.name = (fp.take u).map Pm.name ++ [x.name]) := by
        show _ = _
        rw [List.take_succ_eq_append_getElem hul, List.map_append, ← hx.out]
        rfl
      rw [hx.out] at e0 e1 hxs
      obtain ⟨xn, xt⟩ := x
      simp only at e0 e1 hxs HNx
      have d0 := (HS.out.2.below.cell (p := ⟨pb, po + u * 2, none⟩) (Nat.lt_of_lt_of_le hpb hB)).trans e0
      have d1 := (HS.out.2.below.cell (p := ⟨pb, po + u * 2 + 1, none⟩) (Nat.lt_of_lt_of_le hpb hB)).trans e1
      obtain ⟨wn, hwn⟩ : ∃ wn, Hid (wr.alloc (.cells #[.string xn, .int .i64 xt] 56) = wn) := ⟨_, (rfl : wr.alloc _ = _)⟩
      have hbx : Box wr (.cells #[.string xn, .int .i64 xt] 56) wn := by rw [← hwn.out]; exact Box.first _ _
      have z0 := hbx.cell 0
      simp at z0
      obtain ⟨nu, hsu, hnu⟩ := HS.out.1
      have HS1 : Hid (Sight wn (w.heap.size + 1 + 1) (w.heap.size + 1) (.slice na N nc) (.slice (some ⟨b, off, none⟩) F fcap) (t : Int) ((fp.take u).map Pm.name) nu ∧ Box w (.cells #[.slice na N nc, .slice (some ⟨b, off, none⟩) F fcap] 31) wn) := ⟨hsu.below hbx.below, HS.out.2.next hbx.below⟩
      clear e0 e1 hsu hbx HS x0 x1 hmm
      go_wp2_with fail
      rw [hwn.out]
      go_wp2_with fail
      go_at_call 61
      refine Calls.mono (sightBegin_any _ _ _ _ _ _ nu xn hxs (by omega) wn HS1.out.1) ?_
      rintro e w1 ⟨rfl, hs1, hg1⟩
      have HS2 : Hid ((∃ n', Sight w1 (w.heap.size + 1 + 1) (w.heap.size + 1) (.slice na N nc) (.slice (some ⟨b, off, none⟩) F fcap) (t : Int) ((fp.take (u + 1)).map Pm.name) n' ∧ n' ≤ u + 1) ∧ Box w (.cells #[.slice na N nc, .slice (some ⟨b, off, none⟩) F fcap] 31) w1) := by
        rw [HNx.out]
        exact ⟨⟨nu + 1, hs1, by omega⟩, Box.grown HS1.out.2 hg1 (fun q hq => by cases hq; exact Nat.le_refl _)⟩
      clear hs1 hg1 HS1 HNx hwn d0 d1 z0
      go_wp2
      go_roundw
      case rel => exact ⟨u + 1, by omega, by go_num, HS2⟩
      case measure => simp [intOf]; omega
    · have hpm : (fp.take u).map Pm.name = fp.map Pm.name := by rw [List.take_of_length_le (by have := HK.out; omega)]
      rw [hpm] at HS
      obtain ⟨S0, hS0⟩ : ∃ q, Hid (fp.map Pm.name = q) := ⟨_, (rfl : fp.map Pm.name = _)⟩
      rw [hS0.out] at HS hseen
      clear hpm hmm
      obtain ⟨r1, r2, hr⟩ : ∃ r1 r2, Hid (seeL (see p (t : Int)) (p.nodes.getD bd nd0).kids S0 = (r1, r2)) := ⟨_, _, (rfl : seeL (see p (t : Int)) (p.nodes.getD bd nd0).kids S0 = (_, _))⟩
      rw [hr.out] at hseen
      simp only at hseen
      obtain ⟨nu, hsu, hnu⟩ := HS.out.1
      have hBw : B ≤ wr.heap.size := Nat.le_trans hB (Nat.le_of_lt HS.out.2.lt)
      have hSA : ∀ c : Nat, c < N → SeesAt p B (w.heap.size + 1 + 1) (w.heap.size + 1) na N nc (some ⟨b, off, none⟩) F fcap (t : Int) c := sees_any p B _ _ na N nc _ F fcap (t : Int) HP.out HN HF ⟨ht0, ht1⟩ ⟨by omega, by omega⟩
      obtain ⟨M, hM1, hM2, hM3, _⟩ := puts_kids HP.out (k := bd) (by have := HN.out; omega)
      have cK : Hid (Calls Tryz.prog 62 #[.pointer (some ⟨w.heap.size + 1 + 1, 0, none⟩), .int .i64 (bd : Int)] wr fun e w' => e = .returned (.bool r1) ∧ (∃ n', Sight w' (w.heap.size + 1 + 1) (w.heap.size + 1) (.slice na N nc) (.slice (some ⟨b, off, none⟩) F fcap) (t : Int) r2 n' ∧ n' ≤ 1000000000010) ∧ wr.grownBy w' (some (w.heap.size + 1))) := by
        have h1 := kids_any p B (w.heap.size + 1 + 1) (w.heap.size + 1) na N nc _ F fcap (t : Int) HP.out HN ⟨by omega, by omega⟩ bd hbdN (fun c hc => hSA c (by omega)) wr S0 nu hBw (HR.out.1.1.keep (HS.out.2.below.mono hB)) (HR.out.1.2.keep (HS.out.2.below.mono hB)) hsu (by rw [hM2]; omega)
        rw [hr.out, hM2] at h1
        refine h1.mono ?_
        rintro e w' ⟨g1, ⟨n', g2, g3⟩, g4⟩
        exact ⟨g1, ⟨n', g2, by omega⟩, g4⟩
      have HSA : Hid (∀ c : Nat, c < N → SeesAt p B (w.heap.size + 1 + 1) (w.heap.size + 1) na N nc (some ⟨b, off, none⟩) F fcap (t : Int) c) := hSA
      have HB0 : Hid (Box w (.cells #[.slice na N nc, .slice (some ⟨b, off, none⟩) F fcap] 31) wr) := HS.out.2
      have d3 := (HS.out.2.below.cell (p := ⟨b, off + t * 5 + 3, none⟩) (Nat.lt_of_lt_of_le hbw hB)).trans HC.out.2.1
      clear hSA hsu HS
      cases hr1 : r1
      · rw [hr1] at cK hseen
        have hRe : R = false := by have := hseen.out; simpa using this
        go_wp2_with fail
        go_at_call 62
        refine Calls.mono cK.out ?_
        rintro e w1 ⟨rfl, ⟨n1, hs1, hn1⟩, hg1⟩
        have HF1 : Hid (Below w.heap.size w w1) := (Box.grown HB0.out hg1 (fun q hq => by cases hq; exact Nat.le_refl _)).below
        clear hs1 hg1 HB0 cK
        go_wp2
        go_ret
        exact ⟨by subst hRe; rfl, HF1.out⟩
      rw [hr1] at cK hseen
      rcases hret with rfl | ⟨hr0, hrN, hrv⟩
      · have hRe : R = true := by have := hseen.out; simpa using this
        go_wp2_with fail
        go_at_call 62
        refine Calls.mono cK.out ?_
        rintro e w1 ⟨rfl, ⟨n1, hs1, hn1⟩, hg1⟩
        have HB1 : Hid (Box w (.cells #[.slice na N nc, .slice (some ⟨b, off, none⟩) F fcap] 31) w1) := Box.grown HB0.out hg1 (fun q hq => by cases hq; exact Nat.le_refl _)
        clear hs1 hg1 HB0 cK x0 x1 d3
        have x1 := HB1.out.cell 1
        simp at x1
        have d4 := (HB1.out.below.cell (p := ⟨b, off + t * 5 + 4, none⟩) (Nat.lt_of_lt_of_le hbw hB)).trans HC.out.2.2
        go_wp2
        go_ret
        exact ⟨by subst hRe; rfl, HB1.out.below⟩
      · obtain ⟨rt, rfl⟩ : ∃ rt : Nat, ft = (rt : Int) := ⟨ft.toNat, by omega⟩
        rw [Int.toNat_natCast] at hseen
        have hrtN : rt < N := by have := HN.out; omega
        have hdm : ((rt : Int) == -1) = false := by simp
        have hdn : decide ((rt : Int) = -1) = false := by simp
        obtain ⟨s1, s2, hs⟩ : ∃ s1 s2, Hid (see p (t : Int) rt r2 = (s1, s2)) := ⟨_, _, (rfl : see p (t : Int) rt r2 = (_, _))⟩
        have hRe : R = s1 := by have := hseen.out; rw [hs.out, hdn] at this; simpa using this
        obtain ⟨M2, hM21, hM22, hM23, _⟩ := puts_kids HP.out (k := rt) (by have := HN.out; omega)
        go_wp2_with fail
        go_at_call 62
        refine Calls.mono cK.out ?_
        rintro e w1 ⟨rfl, ⟨n1, hs1, hn1⟩, hg1⟩
        have HB1 : Hid (Box w (.cells #[.slice na N nc, .slice (some ⟨b, off, none⟩) F fcap] 31) w1) := Box.grown HB0.out hg1 (fun q hq => by cases hq; exact Nat.le_refl _)
        have cS : Hid (Calls Tryz.prog 63 #[.pointer (some ⟨w.heap.size + 1 + 1, 0, none⟩), .int .i64 (rt : Int)] w1 fun e w' => e = .returned (.bool s1) ∧ w1.grownBy w' (some (w.heap.size + 1))) := by
          have h1 := HSA.out rt hrtN w1 r2 n1 (Nat.le_trans hB (Nat.le_of_lt HB1.out.lt)) (HR.out.1.1.keep (HB1.out.below.mono hB)) (HR.out.1.2.keep (HB1.out.below.mono hB)) hs1 (by rw [hM22]; omega)
          rw [hs.out] at h1
          refine h1.mono ?_
          rintro e w' ⟨g1, _, g4⟩
          exact ⟨g1, g4⟩
        clear hs1 hg1 HB0 cK x0 x1 d3
        have x1 := HB1.out.cell 1
        simp at x1
        have d4 := (HB1.out.below.cell (p := ⟨b, off + t * 5 + 4, none⟩) (Nat.lt_of_lt_of_le hbw hB)).trans HC.out.2.2
        go_wp2_with fail
        go_at_call 63
        refine Calls.mono cS.out ?_
        rintro e w2 ⟨rfl, hg2⟩
        have HF1 : Hid (Below w.heap.size w w2) := (Box.grown HB1.out hg2 (fun q hq => by cases hq; exact Nat.le_refl _)).below
        clear hg2 HB1 cS
        go_wp2
        go_ret
        exact ⟨by subst hRe; rfl, HF1.out⟩

end Go.Proofs.YtjafneaaefpefaaGreat

namespace Go.Proofs.YtjafneaaefpefaaGreat
open Go.RowKit

theorem varsOf_cases2 (p : Pg) (fn : Int) : varsOf p fn = [] ∨ ∃ f ∈ p.fns, varsOf p fn = varsIn p.nodes f := by
  unfold varsOf
  split
  · rename_i h
    rw [isIn_iff] at h
    have hl : fn.toNat < p.fns.length := by omega
    exact .inr ⟨p.fns[fn.toNat], List.getElem_mem hl, by simp [List.getD, hl]⟩
  · exact .inl rfl
theorem underL_len2 (ns : List Nd) (k : Int) : (underL ns k).length ≤ ns.length := by
  unfold underL
  split
  · simp
  · rename_i h
    have hk := deep_in7 h
    exact Nat.le_trans (picks_len _ _) (by omega)
theorem varsOf_few {p : Pg} (hl : szPg p ≤ 1048576) (fn : Int) : (varsOf p fn).length ≤ 2097152 := by
  rcases varsOf_cases2 p fn with h | ⟨f, hf, h⟩
  · rw [h]
    simp
  · rw [h]
    unfold varsIn
    rw [List.length_append, List.length_map]
    have h1 := lets_len p.nodes (underL p.nodes f.body)
    have h2 := underL_len2 p.nodes f.body
    have h3 := len_szRow szNd p.nodes
    have h4 := le_szPg_nodes p
    have h5 := le_szPg_fns p
    have h6 := mem_szRow szFc hf
    have h7 := le_szFc_params f
    have h8 := len_szRow szPm f.params
    omega
/-- What the program asks of the first n functions. -/
def seesTo (p : Pg) : Nat → Bool
  | 0 => true
  | n + 1 => seesTo p n && (onceB (varsOf p (n : Int)) && seesB p n)
def seesRight (p : Pg) : Bool := programOk p && seesTo p p.fns.length
theorem seesTo_false {p : Pg} {i n : Nat} (hi : i < n) (h : (onceB (varsOf p (i : Int)) && seesB p i) = false) : seesTo p n = false := by
  induction n with
  | zero => omega
  | succ n ih =>
    rcases Nat.lt_or_ge i n with h1 | h1
    · simp [seesTo, ih h1]
    · have : i = n := by omega
      subst this
      simp only [seesTo, h, Bool.and_false]
theorem onceB_false {vs : List Vr} {k : Nat} (hk : k < vs.length) (h : varAt vs vs[k].name ≠ (k : Int)) : onceB vs = false := by
  cases ho : onceB vs
  · rfl
  · exfalso
    unfold onceB at ho
    rw [List.all_eq_true] at ho
    have h2 := ho k (List.mem_range.mpr hk)
    simp only [decide_eq_true_eq] at h2
    rw [show vs.getD k ⟨ByteArray.empty, 0, 0⟩ = vs[k] by simp [List.getD, hk]] at h2
    exact h h2
theorem onceB_true {vs : List Vr} (h : ∀ j, (hj : j < vs.length) → varAt vs vs[j].name = (j : Int)) : onceB vs = true := by
  unfold onceB
  rw [List.all_eq_true]
  intro j hj
  have hj' := List.mem_range.mp hj
  rw [show vs.getD j ⟨ByteArray.empty, 0, 0⟩ = vs[j] by simp [List.getD, hj']]
  simpa using h j hj'

set_option maxRecDepth 100000 in
set_option maxHeartbeats 6400000 in
theorem begunOnce_any (B : Nat) (v : Value) (xs : List Vr) (w : World) (hB : B ≤ w.heap.size) (hv : VrR.Row w B v xs) (hl : xs.length ≤ 2097152) :
    Calls Tryz.prog 26 #[v] w fun e w' => e = .returned (.bool (onceB xs)) ∧ Below w.heap.size w w' := by
  obtain ⟨va, vc, rfl⟩ := hv.len
  obtain ⟨X, HX⟩ : ∃ X, Hid (xs.length = X) := ⟨_, (rfl : xs.length = xs.length)⟩
  rw [HX.out] at hv ⊢
  have hX : X ≤ 2097152 := by have := HX.out; omega
  have HV : Hid (VrR.Row w B (.slice va X vc) xs) := hv
  obtain ⟨R, hR⟩ : ∃ R, Hid (onceB xs = R) := ⟨_, (rfl : onceB xs = _)⟩
  rw [hR.out]
  have HS0 : Hid ((∀ j, (hj : j < xs.length) → j < 0 → varAt xs xs[j].name = (j : Int)) ∧ Below w.heap.size w w) := ⟨fun j _ h => by omega, Below.refl _ _⟩
  clear hv
  go_enter Tryz.func26, Tryz.ntmps26
  go_wp2
  go_loopw [7] (fun i wr => ∃ k : Nat, k ≤ X ∧ i = .int .i64 (k : Int) ∧ Hid ((∀ j, (hj : j < xs.length) → j < k → varAt xs xs[j].name = (j : Int)) ∧ Below w.heap.size w wr)) (fun i _ => X - (intOf i).toNat)
  case atStart => exact ⟨0, Nat.zero_le _, rfl, HS0.out⟩
  case round =>
    obtain ⟨k, hk, rfl, HS⟩ := hrel
    clear HS0
    by_cases hlt : k < X
    · have hk0 : (0 : Int) ≤ (k : Int) := by omega
      have hk1 : (k : Int) < (X : Int) := by omega
      have hkl : k < xs.length := by have := HX.out; omega
      obtain ⟨vb, vo, rfl, hvb, c0, c1, c2⟩ := VrR.at HV.out k hkl
      have d0 := (HS.out.2.cell (p := ⟨vb, vo + k * 3, none⟩) (Nat.lt_of_lt_of_le hvb hB)).trans c0
      have d1 := (HS.out.2.cell (p := ⟨vb, vo + k * 3 + 1, none⟩) (Nat.lt_of_lt_of_le hvb hB)).trans c1
      have d2 := (HS.out.2.cell (p := ⟨vb, vo + k * 3 + 2, none⟩) (Nat.lt_of_lt_of_le hvb hB)).trans c2
      have hne := fun h => onceB_false (vs := xs) hkl h
      have hnx : ∀ j, (hj : j < xs.length) → j < k + 1 → j ≠ k → varAt xs xs[j].name = (j : Int) := fun j hj h1 h2 => HS.out.1 j hj (by omega)
      have HNX : Hid (∀ j, (hj : j < xs.length) → j < k + 1 → j ≠ k → varAt xs xs[j].name = (j : Int)) := hnx
      obtain ⟨x, hx⟩ : ∃ x, Hid (xs[k] = x) := ⟨_, (rfl : xs[k] = xs[k])⟩
      rw [hx.out] at d0 d1 d2 hne
      obtain ⟨xn, xt, xd⟩ := x
      simp only at d0 d1 d2 hne
      have HB : Hid (Below w.heap.size w wr) := HS.out.2
      obtain ⟨wn, hwn⟩ : ∃ wn, Hid (wr.alloc (.cells #[.string xn, .int .i64 xt, .int .i64 xd] 47) = wn) := ⟨_, (rfl : wr.alloc _ = _)⟩
      have hbx : Box wr (.cells #[.string xn, .int .i64 xt, .int .i64 xd] 47) wn := by rw [← hwn.out]; exact Box.first _ _
      have z0 := hbx.cell 0
      simp at z0
      have HBn : Hid (Below w.heap.size w wn) := HB.out.trans (hbx.below.mono HB.out.size)
      obtain ⟨z, hz⟩ : ∃ z, Hid (varAt xs xn = z) := ⟨_, (rfl : varAt xs xn = _)⟩
      have cA : Hid (Calls Tryz.prog 59 #[.slice (some ⟨vb, vo, none⟩) X vc, .string xn] wn fun e w' => e = .returned (.int .i64 z) ∧ Below wn.heap.size wn w') := by
        rw [← hz.out]
        exact implVarAt_any B _ xs xn wn (Nat.le_trans hB HBn.out.size) (HV.out.keep (HBn.out.mono hB)) (by omega)
      rw [hz.out] at hne
      have HNE : Hid (z ≠ (k : Int) → R = false) := fun h => by rw [← hR.out]; exact hne h
      clear c0 c1 c2 hne hnx hbx HS
      by_cases hzk : z = (k : Int)
      · subst hzk
        go_wp2_with fail
        rw [hwn.out]
        go_wp2_with fail
        go_at_call 59
        refine Calls.mono cA.out ?_
        rintro e w3 ⟨rfl, hb3⟩
        have HS1 : Hid ((∀ j, (hj : j < xs.length) → j < k + 1 → varAt xs xs[j].name = (j : Int)) ∧ Below w.heap.size w w3) := by
          refine ⟨fun j hj h1 => ?_, HBn.out.trans (hb3.mono HBn.out.size)⟩
          by_cases e : j = k
          · subst e
            rw [hx.out]
            exact hz.out
          · exact HNX.out j hj h1 e
        clear hb3 cA HBn HB d0 d1 d2 z0 hwn HNX HNE
        go_wp2
        go_roundw
        case rel => exact ⟨k + 1, by omega, by go_num, HS1⟩
        case measure => simp [intOf]; omega
      · have hzb : (z == (k : Int)) = false := by simpa using hzk
        have hzb2 : (z != (k : Int)) = true := by simpa using hzk
        have hRe := HNE.out hzk
        go_wp2_with fail
        rw [hwn.out]
        go_wp2_with fail
        go_at_call 59
        refine Calls.mono cA.out ?_
        rintro e w3 ⟨rfl, hb3⟩
        have HF : Hid (Below w.heap.size w w3) := HBn.out.trans (hb3.mono HBn.out.size)
        clear hb3 cA HBn HB d0 d1 d2 z0 hwn HNX HNE
        go_wp2
        go_ret
        exact ⟨by subst hRe; rfl, HF.out⟩
    · have HF : Hid (R = true ∧ Below w.heap.size w wr) := ⟨by rw [← hR.out]; exact onceB_true (fun j hj => HS.out.1 j hj (by have := HX.out; omega)), HS.out.2⟩
      clear HS
      have hRe := HF.out.1
      go_wp2
      go_ret
      exact ⟨by subst hRe; rfl, HF.out.2⟩

set_option maxRecDepth 100000 in
set_option maxHeartbeats 6400000 in
theorem implNamesRight_any (v0 v1 : Value) (p : Pg) (w : World) (hR : RowPg w w.heap.size v0 v1 p) (hl : szPg p ≤ 1048576) :
    Calls Tryz.prog 8 #[.agg #[v0, v1]] w fun e w' => e = .returned (.bool (seesRight p)) ∧ Below w.heap.size w w' := by
  obtain ⟨na, nc, rfl⟩ := hR.1.len
  obtain ⟨fa, fcap, rfl⟩ := hR.2.len
  obtain ⟨N, HN⟩ : ∃ N, Hid (p.nodes.length = N) := ⟨_, (rfl : p.nodes.length = p.nodes.length)⟩
  obtain ⟨F, HF⟩ : ∃ N, Hid (p.fns.length = N) := ⟨_, (rfl : p.fns.length = p.fns.length)⟩
  have HV : Hid (RowPg w w.heap.size (.slice na N nc) (.slice fa F fcap) p) := by rw [← HN.out, ← HF.out]; exact hR
  have HL : Hid (szPg p ≤ 1048576) := hl
  have hFl : F ≤ 1048576 := by have := len_szRow szFc p.fns; have := le_szPg_fns p; have := HF.out; omega
  rw [HN.out, HF.out]
  have cP : Hid (∀ W, Below w.heap.size w W → Calls Tryz.prog 25 #[.agg #[.slice na N nc, .slice fa F fcap]] W fun e w' => e = .returned (.bool (programOk p)) ∧ Below W.heap.size W w') := fun W hW => implProgramOk_any _ _ p W ((HV.out.keep hW).up hW.size) HL.out
  cases hp : programOk p
  · have HE : Hid (seesRight p = false) := by show _ = _; unfold seesRight; rw [hp]; rfl
    rw [HE.out]
    rw [hp] at cP
    clear hR hl hp
    go_enter Tryz.func8, Tryz.ntmps8
    go_wp2_with fail
    go_at_call 25
    refine Calls.mono (cP.out _ (by go_grown)) ?_
    rintro e w1 ⟨rfl, hb⟩
    have B1 : Hid (Box w (.cells #[.slice na N nc, .slice fa F fcap] 31) w1) := (Box.first _ _).next hb
    clear hb cP
    go_wp2
    go_ret
    exact ⟨rfl, B1.out.below⟩
  rw [hp] at cP
  obtain ⟨R, hR⟩ : ∃ R, Hid (seesTo p F = R) := ⟨_, (rfl : seesTo p F = _)⟩
  have HE : Hid (seesRight p = R) := by show _ = _; unfold seesRight; rw [hp, HF.out, hR.out]; rfl
  rw [HE.out]
  have HP : Hid (programOk p = true) := hp
  clear hl
  go_enter Tryz.func8, Tryz.ntmps8
  go_wp2_with fail
  go_at_call 25
  refine Calls.mono (cP.out _ (by go_grown)) ?_
  rintro e w1 ⟨rfl, hb⟩
  have B1 : Hid (Box w (.cells #[.slice na N nc, .slice fa F fcap] 31) w1) := (Box.first _ _).next hb
  clear hb cP
  have x1 := B1.out.cell 1
  simp at x1
  go_wp2_with fail
  go_loopw [10] (fun i wr => ∃ t : Nat, t ≤ F ∧ i = .int .i64 (t : Int) ∧ Hid (seesTo p t = true ∧ Box w (.cells #[.slice na N nc, .slice fa F fcap] 31) wr)) (fun i _ => F - (intOf i).toNat)
  case atStart => exact ⟨0, Nat.zero_le _, rfl, rfl, B1.out⟩
  case round =>
    obtain ⟨t, ht, rfl, HJ⟩ := hrel
    clear B1 x1
    by_cases hlt : t < F
    rotate_left
    · have htF : t = F := by omega
      subst htF
      have HZ : Hid (R = true ∧ Below w.heap.size w wr) := ⟨by rw [← hR.out]; exact HJ.out.1, HJ.out.2.below⟩
      clear HJ
      have hRe := HZ.out.1
      go_wp2
      go_ret
      exact ⟨by subst hRe; rfl, HZ.out.2⟩
    have x0 := HJ.out.2.cell 0
    have x1 := HJ.out.2.cell 1
    simp at x0 x1
    have ht0 : (0 : Int) ≤ (t : Int) := by omega
    have ht1 : (t : Int) < (F : Int) := by omega
    have htf : t < p.fns.length := by have := HF.out; omega
    obtain ⟨vs, hvs⟩ : ∃ vs, Hid (varsOf p (t : Int) = vs) := ⟨_, (rfl : varsOf p (t : Int) = varsOf p (t : Int))⟩
    obtain ⟨X, HX⟩ : ∃ X, Hid (vs.length = X) := ⟨_, (rfl : vs.length = vs.length)⟩
    have hvl : vs.length ≤ 2097152 := by
      rw [← hvs.out]
      exact varsOf_few HL.out _
    have cV : Hid (Calls Tryz.prog 27 #[.agg #[.slice na N nc, .slice fa F fcap], .int .i64 (t : Int)] wr fun e w' => (∃ a cap, e = .returned (.slice a X cap) ∧ OwnsV w' wr.heap.size (.slice a X cap) vs) ∧ Below wr.heap.size wr w') := by
      have h1 := implVarsOf_any _ _ p (t : Int) wr ((HV.out.keep HJ.out.2.below).up HJ.out.2.below.size) HL.out
      rw [hvs.out, HX.out] at h1
      exact h1
    cases ho : onceB vs
    · go_wp2_with fail
      go_at_call 27
      refine Calls.mono cV.out ?_
      rintro e w2 ⟨⟨va, vc, rfl, hos⟩, hb2⟩
      have HB2 : Hid (Box w (.cells #[.slice na N nc, .slice fa F fcap] 31) w2 ∧ OwnsV w2 0 (.slice va X vc) vs) := ⟨HJ.out.2.next hb2, owns_base hos (Nat.zero_le _)⟩
      have cO : Hid (Calls Tryz.prog 26 #[.slice va X vc] w2 fun e w' => e = .returned (.bool false) ∧ Below w2.heap.size w2 w') := by
        have h1 := begunOnce_any w2.heap.size _ vs w2 (Nat.le_refl _) (OwnsV.seen HB2.out.2) hvl
        rw [ho] at h1
        exact h1
      have HNT : Hid (seesTo p t = true) := HJ.out.1
      clear hos hb2 cV HJ x0 x1
      go_wp2_with fail
      go_at_call 26
      refine Calls.mono cO.out ?_
      rintro e w3 ⟨rfl, hb3⟩
      have HB3 : Hid (Box w (.cells #[.slice na N nc, .slice fa F fcap] 31) w3) := HB2.out.1.next hb3
      clear hb3 cO HB2
      have HF2 : Hid (R = false ∧ Below w.heap.size w w3) := ⟨by rw [← hR.out]; exact seesTo_false hlt (by rw [hvs.out, ho]; rfl), HB3.out.below⟩
      clear HB3
      have hRe := HF2.out.1
      go_wp2
      go_ret
      exact ⟨by subst hRe; rfl, HF2.out.2⟩
    cases hs : seesB p t
    · go_wp2_with fail
      go_at_call 27
      refine Calls.mono cV.out ?_
      rintro e w2 ⟨⟨va, vc, rfl, hos⟩, hb2⟩
      have HB2 : Hid (Box w (.cells #[.slice na N nc, .slice fa F fcap] 31) w2 ∧ OwnsV w2 0 (.slice va X vc) vs) := ⟨HJ.out.2.next hb2, owns_base hos (Nat.zero_le _)⟩
      have cO : Hid (Calls Tryz.prog 26 #[.slice va X vc] w2 fun e w' => e = .returned (.bool true) ∧ Below w2.heap.size w2 w') := by
        have h1 := begunOnce_any w2.heap.size _ vs w2 (Nat.le_refl _) (OwnsV.seen HB2.out.2) hvl
        rw [ho] at h1
        exact h1
      have HNT : Hid (seesTo p t = true) := HJ.out.1
      clear hos hb2 cV HJ x0 x1
      go_wp2_with fail
      go_at_call 26
      refine Calls.mono cO.out ?_
      rintro e w3 ⟨rfl, hb3⟩
      have HB3 : Hid (Box w (.cells #[.slice na N nc, .slice fa F fcap] 31) w3) := HB2.out.1.next hb3
      clear hb3 cO HB2
      have x0 := HB3.out.cell 0
      have x1 := HB3.out.cell 1
      simp at x0 x1
      have cS : Hid (Calls Tryz.prog 28 #[.agg #[.slice na N nc, .slice fa F fcap], .int .i64 (t : Int)] w3 fun e w' => e = .returned (.bool false) ∧ Below w3.heap.size w3 w') := by
        have h1 := seesAll_any w.heap.size _ _ p t w3 HB3.out.below.size (HV.out.keep HB3.out.below) HP.out htf
        rw [hs] at h1
        exact h1
      go_wp2_with fail
      go_at_call 28
      refine Calls.mono cS.out ?_
      rintro e w4 ⟨rfl, hb4⟩
      have HB4 : Hid (Box w (.cells #[.slice na N nc, .slice fa F fcap] 31) w4) := HB3.out.next hb4
      clear hb4 cS HB3 x0 x1
      have HF2 : Hid (R = false ∧ Below w.heap.size w w4) := ⟨by rw [← hR.out]; exact seesTo_false hlt (by rw [hvs.out, ho, hs]; rfl), HB4.out.below⟩
      clear HB4
      have hRe := HF2.out.1
      go_wp2
      go_ret
      exact ⟨by subst hRe; rfl, HF2.out.2⟩
    · go_wp2_with fail
      go_at_call 27
      refine Calls.mono cV.out ?_
      rintro e w2 ⟨⟨va, vc, rfl, hos⟩, hb2⟩
      have HB2 : Hid (Box w (.cells #[.slice na N nc, .slice fa F fcap] 31) w2 ∧ OwnsV w2 0 (.slice va X vc) vs) := ⟨HJ.out.2.next hb2, owns_base hos (Nat.zero_le _)⟩
      have cO : Hid (Calls Tryz.prog 26 #[.slice va X vc] w2 fun e w' => e = .returned (.bool true) ∧ Below w2.heap.size w2 w') := by
        have h1 := begunOnce_any w2.heap.size _ vs w2 (Nat.le_refl _) (OwnsV.seen HB2.out.2) hvl
        rw [ho] at h1
        exact h1
      have HNT : Hid (seesTo p t = true) := HJ.out.1
      clear hos hb2 cV HJ x0 x1
      go_wp2_with fail
      go_at_call 26
      refine Calls.mono cO.out ?_
      rintro e w3 ⟨rfl, hb3⟩
      have HB3 : Hid (Box w (.cells #[.slice na N nc, .slice fa F fcap] 31) w3) := HB2.out.1.next hb3
      clear hb3 cO HB2
      have x0 := HB3.out.cell 0
      have x1 := HB3.out.cell 1
      simp at x0 x1
      have cS : Hid (Calls Tryz.prog 28 #[.agg #[.slice na N nc, .slice fa F fcap], .int .i64 (t : Int)] w3 fun e w' => e = .returned (.bool true) ∧ Below w3.heap.size w3 w') := by
        have h1 := seesAll_any w.heap.size _ _ p t w3 HB3.out.below.size (HV.out.keep HB3.out.below) HP.out htf
        rw [hs] at h1
        exact h1
      go_wp2_with fail
      go_at_call 28
      refine Calls.mono cS.out ?_
      rintro e w4 ⟨rfl, hb4⟩
      have HB4 : Hid (Box w (.cells #[.slice na N nc, .slice fa F fcap] 31) w4) := HB3.out.next hb4
      clear hb4 cS HB3 x0 x1
      have HQ : Hid (seesTo p (t + 1) = true ∧ Box w (.cells #[.slice na N nc, .slice fa F fcap] 31) w4) := ⟨by show seesTo p (t + 1) = true; simp only [seesTo, HNT.out, hvs.out, ho, hs]; rfl, HB4.out⟩
      clear HB4 HNT
      go_wp2
      go_roundw
      case rel => exact ⟨t + 1, by omega, by go_num, HQ⟩
      case measure => simp [intOf]; omega

end Go.Proofs.YtjafneaaefpefaaGreat

namespace Go.Proofs.YtjafneaaefpefaaGreat

theorem once_same {vs : List Vr} (h : onceB vs = true) {x y : Vr} (hx : x ∈ vs) (hy : y ∈ vs) (hn : x.name = y.name) : x = y := by
  obtain ⟨i, hi, rfl⟩ := List.getElem_of_mem hx
  obtain ⟨j, hj, rfl⟩ := List.getElem_of_mem hy
  have hat : ∀ k, (hk : k < vs.length) → varAt vs vs[k].name = (k : Int) := fun k hk => by
    unfold onceB at h
    rw [List.all_eq_true] at h
    have h2 := h k (List.mem_range.mpr hk)
    simp only [decide_eq_true_eq] at h2
    rwa [show vs.getD k ⟨ByteArray.empty, 0, 0⟩ = vs[k] by simp [List.getD, hk]] at h2
  have h1 := hat i hi
  have h2 := hat j hj
  rw [hn, h2] at h1
  have : i = j := by omega
  subst this
  rfl
theorem seen_sees {p : Pg} (h : programOk p = true) {t : Nat} (ht : t < p.fns.length) (ho : onceB (varsOf p (t : Int)) = true) : seenB p t = seesB p t := by
  have hff := fn_facts h ht
  rw [show p.fns.getD t fc0 = p.fns[t] by simp [List.getD, ht]] at hff
  have hg : p.fns.getD t fc1 = p.fns[t] := by simp [List.getD, ht]
  have hv : varsOf p (t : Int) = varsIn p.nodes p.fns[t] := by
    unfold varsOf
    rw [if_pos (by rw [isIn_iff]; omega), Int.toNat_natCast, hg]
  rw [hv] at ho
  unfold seenB seesB
  rw [hg]
  generalize p.fns[t] = f at hff ho ⊢
  obtain ⟨b, hb⟩ : ∃ b : Nat, f.body = (b : Int) := ⟨f.body.toNat, by have := hff.body; omega⟩
  have hbody := hff.body
  rw [hb] at hbody
  rw [Int.toNat_natCast] at hbody
  have hbl : b < p.nodes.length := by omega
  have hU : IsUnder p.nodes b (underL p.nodes (b : Int)) := by
    rcases underL_ans p.nodes (b : Int) with ⟨h0, _⟩ | ⟨_, h1⟩
    · have := (prog_deep_all h hbl).1
      omega
    · rwa [Int.toNat_natCast] at h1
  have hin : ∀ j, Reach p.nodes b j → (p.nodes.getD j nd0).kind = 13 → (⟨(p.nodes.getD j nd0).name, 0, (j : Int)⟩ : Vr) ∈ varsIn p.nodes f := fun j hj h13 => by
    unfold varsIn lets
    refine List.mem_append_right _ (List.mem_map.mpr ⟨(j : Int), List.mem_filter.mpr ⟨?_, by simpa using h13⟩, by unfold letV; rw [Int.toNat_natCast]⟩)
    rw [hb]
    exact (hU.2 _).mpr ⟨j, rfl, hj⟩
  have U : ∀ i j, Reach p.nodes b i → Reach p.nodes b j → (p.nodes.getD i nd0).kind = 13 → (p.nodes.getD j nd0).kind = 13 → (p.nodes.getD i nd0).name = (p.nodes.getD j nd0).name → i = j := fun i j hi hj h1 h2 hn => by
    have := once_same ho (hin i hi h1) (hin j hj h2) hn
    simp only [Vr.mk.injEq] at this
    omega
  have hG : Good p (f.params.map Pm.name) b := fun j hj h13 => by
    cases hs : scHas (f.params.map Pm.name) (p.nodes.getD j nd0).name
    · rfl
    · exfalso
      unfold scHas at hs
      rw [List.any_eq_true] at hs
      obtain ⟨s, hs1, hs2⟩ := hs
      obtain ⟨q, hq, rfl⟩ := List.mem_map.mp hs1
      have hq2 : parV q ∈ varsIn p.nodes f := by
        unfold varsIn
        exact List.mem_append_left _ (List.mem_map.mpr ⟨q, hq, rfl⟩)
      have := once_same ho hq2 (hin j hj h13) (sameB_eq hs2)
      unfold parV at this
      simp only [Vr.mk.injEq] at this
      omega
  have hS := (see_body (fn := (t : Int)) h b U b hbl .self).2 hbody.2.2 (f.params.map Pm.name) (f.params.map Pm.name) (fun _ => rfl) hG
  simp only
  rw [hb, Int.toNat_natCast, hS.1]
  cases hr : (scBlk p (t : Int) b (f.params.map Pm.name)).1
  · rfl
  · have hE := hS.2 (by rw [hS.1, hr])
    simp only [Bool.true_and]
    by_cases h0 : f.res = 0
    · have := hff.none h0
      simp [this]
    · have hs := hff.some h0
      have hd1 : decide (f.ret < 0) = false := by simp; omega
      have hd2 : decide (f.ret = -1) = false := by simp; omega
      rw [hd1, hd2, see_val h f.ret.toNat (by omega) hs.2.2, scVal_eqv hE]
theorem names_to {p : Pg} (h : programOk p = true) : ∀ n, n ≤ p.fns.length → namesTo p n = seesTo p n := by
  intro n
  induction n with
  | zero => intro _; rfl
  | succ n ih =>
    intro hn
    simp only [namesTo, seesTo]
    rw [ih (by omega)]
    cases ho : onceB (varsOf p (n : Int))
    · rfl
    · rw [seen_sees h (by omega) ho]
theorem names_sees (p : Pg) : namesRight p = seesRight p := by
  unfold namesRight seesRight
  cases h : programOk p
  · rfl
  · rw [names_to h _ (Nat.le_refl _)]

end Go.Proofs.YtjafneaaefpefaaGreat
