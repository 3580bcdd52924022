/-
  Nodes put one behind the other, in the program: the walk.
-/
import Derived.Test.YtjafneaaefpefaaPackI
import Derived.Deep.RegionLaw
namespace Go.Proofs.Ytjafneaaefpefaa
open Go.RowKit

theorem ndC_onesB (q : Nd) (a : Option Addr) (n c : Nat) : ∀ u ∈ ndC (q, .slice a n c), u.oneCell' = true := by
  intro u hu
  simp [ndC] at hu
  rcases hu with rfl | rfl | rfl | rfl <;> rfl
theorem copy_no {ns : List Nd} {x B N fc vc d : Nat} {fa va : Option Addr} {k : Int} {w w1 : World} {ps : List (Nd × Value)} (hI : PutIn x B (.cells #[.slice fa N fc, .slice va ps.length vc] 101 (0, 0)) w (.slice va ps.length vc) ps) (hb : Below w.heap.size w w1) (hno : pack ns d k (ps.map Prod.fst) = none) (e : Ending) (he : e = .returned (.tuple #[.int .i64 0, .bool false])) :
    CopyPost ns x B N fc fa d k w (.slice va ps.length vc) ps e w1 :=
  ⟨va, vc, ps, hI.below hb, Turned.of_below hb, by omega, .inr ⟨hno, he⟩⟩

set_option maxRecDepth 100000 in
set_option maxHeartbeats 6400000 in
theorem copyPut_any (ns : List Nd) (x B N fc : Nat) (fa : Option Addr) (HN : Hid (ns.length = N)) (hkl : Hid (∀ q ∈ ns, q.kids.length ≤ 1048576 ∧ q.name.size ≤ 1048576)) : ∀ d : Nat, d ≤ 10 → CopyCall Try.prog ns x B N fc fa d := by
  intro d
  induction d with
  | zero =>
    intro _ k w va vc ps hBw hR hI hl
    have HF : Hid (∀ e, e = Ending.returned (.tuple #[.int .i64 0, .bool false]) → CopyPost ns x B N fc fa 0 k w (.slice va ps.length vc) ps e w) := fun e he => copy_no hI (Below.refl _ _) rfl e he
    clear hR hI
    go_enter Try.func79, Try.ntmps79
    go_wp2
    go_ret2
    exact HF.out _ rfl
  | succ d ih =>
    intro hd k w va vc ps hBw hR hI hl
    have IH : Hid (CopyCall Try.prog ns x B N fc fa d) := ih (by omega)
    clear ih
    have HI : Hid (PutIn x B (.cells #[.slice fa N fc, .slice va ps.length vc] 101 (0, 0)) w (.slice va ps.length vc) ps ∧ NdR.Row w B (.slice fa N fc) ns) := ⟨hI, hR⟩
    have c0 := cell_at hI.at_ 0
    have c1 := cell_at hI.at_ 1
    simp at c0 c1
    have hxw : x < w.heap.size := heap_in hI.at_
    have HNO : Hid (pack ns (d + 1) k (ps.map Prod.fst) = none → ∀ e, e = Ending.returned (.tuple #[.int .i64 0, .bool false]) → CopyPost ns x B N fc fa (d + 1) k w (.slice va ps.length vc) ps e w) := fun hno e he => copy_no hI (Below.refl _ _) hno e he
    obtain ⟨D, hD⟩ : ∃ D : Int, Hid (((d + 1 : Nat) : Int) = D) := ⟨_, (rfl : ((d + 1 : Nat) : Int) = ((d + 1 : Nat) : Int))⟩
    rw [hD.out]
    have hd1 : D ≤ 10 := by have := hD.out; omega
    have hd3 : 0 < D := by have := hD.out; omega
    have hd4 : (D == 0) = false := by simp; omega
    have HD2 : Hid ((d : Int) = D - 1) := by show _ = _; have := hD.out; omega
    clear hR hI
    by_cases hin : isIn k 0 ((N : Int) - 1) = true
    rotate_left
    · have hin' : isIn k 0 ((N : Int) - 1) = false := Bool.eq_false_iff.mpr hin
      have HF : Hid (∀ e, e = Ending.returned (.tuple #[.int .i64 0, .bool false]) → CopyPost ns x B N fc fa (d + 1) k w (.slice va ps.length vc) ps e w) := fun e he => HNO.out (by simp only [pack]; rw [HN.out, if_neg hin]) e he
      clear HNO
      go_enter Try.func79, Try.ntmps79
      go_wp2_with (go_at_call 60; refine (isPlace_any _ _ _ _ _).mono ?_; rintro e w1 ⟨rfl, hw1⟩; have hw2 := hw1.symm; subst hw2; rw [hin'])
      go_ret2
      exact HF.out _ rfl
    clear HNO
    have hkb : 0 ≤ k ∧ k < (N : Int) := by simp [isIn] at hin; omega
    obtain ⟨m, rfl⟩ : ∃ m : Nat, k = (m : Int) := ⟨k.toNat, by omega⟩
    have hm0 : (0 : Int) ≤ (m : Int) := by omega
    have hm1 : (m : Int) < (N : Int) := by omega
    have hml : m < ns.length := by rw [HN.out]; omega
    obtain ⟨b, off, ka, kc, rfl, hb, e0, e1, e2, e3, hK⟩ := RowNd.at HI.out.2 m hml
    obtain ⟨hkx, hnx⟩ := hkl.out ns[m] (List.getElem_mem hml)
    obtain ⟨q, hq⟩ : ∃ q, Hid (ns[m] = q) := ⟨_, (rfl : ns[m] = ns[m])⟩
    rw [hq.out] at e0 e1 e2 e3 hK hkx hnx
    have HQ : Hid (ns.getD m nd0 = q) := by show _ = _; rw [← hq.out]; simp [List.getD, hml]
    obtain ⟨kd, nm, tx, ks⟩ := q
    simp only at e0 e1 e2 e3 hK hkx hnx
    obtain ⟨K, HK⟩ : ∃ K, Hid (ks.length = K) := ⟨_, (rfl : ks.length = ks.length)⟩
    rw [HK.out] at e3 hK hkx
    have HKR : Hid (RowI w B (.slice ka K kc) ks) := hK
    have hbw : b < w.heap.size := by omega
    have hbx : b ≠ x := by have := HI.out.1.lb; omega
    clear hK hkb
    go_enter Try.func79, Try.ntmps79
    go_wp2_with (go_at_call 60; refine (isPlace_any _ _ _ _ _).mono ?_; rintro e w1 ⟨rfl, hw1⟩; have hw2 := hw1.symm; subst hw2; rw [hin])
    have HS : Hid (CopySt ns x B N fc (some ⟨b, off, none⟩) d w (.slice va ps.length vc) ps w.heap.size (.cells #[.int .i64 kd, .int .i64 nm, .string tx, .slice ka K kc] 70) ks 0 (w.alloc (.cells #[.int .i64 kd, .int .i64 nm, .string tx, .slice ka K kc] 70)) va vc ps none 0 0 []) := by
      have hbl : Below w.heap.size w (w.alloc (.cells #[.int .i64 kd, .int .i64 nm, .string tx, .slice ka K kc] 70)) := by go_grown
      exact ⟨HI.out.1.below hbl, Turned.of_below hbl, heap_alloc_new _ _, ownsR_nil _ _ _ _ _, fun g hg => by simp [fpOf, Value.ownBlock] at hg, HI.out.1.off (Nat.le_refl _), by omega, by simp, rfl⟩
    clear c0 c1 e0 e1 e2 e3
    have hDw : IntKind.i64.wrap (D - 1) = D - 1 := IntWalk.i64_in _ ⟨by omega, by omega⟩
    go_loopw [9, 35] (fun kv i wr => ∃ s : Nat, s ≤ K ∧ i = .int .i64 (s : Int) ∧ ∃ (ka2 : Option Addr) (kn2 kc2 : Nat), kv = .slice ka2 kn2 kc2 ∧ Hid (∃ va2 vc2 ps2 ks2, CopySt ns x B N fc (some ⟨b, off, none⟩) d w (.slice va ps.length vc) ps w.heap.size (.cells #[.int .i64 kd, .int .i64 nm, .string tx, .slice ka K kc] 70) ks s wr va2 vc2 ps2 ka2 kn2 kc2 ks2)) (fun _ i _ => K - (intOf i).toNat)
    case atStart => exact ⟨0, Nat.zero_le _, rfl, none, 0, 0, rfl, va, vc, ps, [], HS.out⟩
    case round =>
      obtain ⟨s, hs, rfl, ka2, kn2, kc2, rfl, HJ⟩ := hrel
      clear HS
      obtain ⟨va2, vc2, ps2, ks2, hst⟩ := HJ.out
      have HST : Hid (CopySt ns x B N fc (some ⟨b, off, none⟩) d w (.slice va ps.length vc) ps w.heap.size (.cells #[.int .i64 kd, .int .i64 nm, .string tx, .slice ka K kc] 70) ks s wr va2 vc2 ps2 ka2 kn2 kc2 ks2) := hst
      have hbx2 : Below B w wr := hst.turned.below HI.out.1
      have hxr : x < wr.heap.size := heap_in hst.put.at_
      have hyr : w.heap.size < wr.heap.size := heap_in hst.box
      obtain ⟨L2, HL2⟩ : ∃ n, Hid (ps2.length = n) := ⟨_, (rfl : ps2.length = ps2.length)⟩
      have g1 := cell_at hst.put.at_ 1
      simp at g1
      rw [HL2.out] at g1
      have y0 := cell_at hst.box 0
      have y1 := cell_at hst.box 1
      have y2 := cell_at hst.box 2
      simp at y0 y1 y2
      have HBX : Hid (Below B w wr) := hbx2
      clear hst HJ hbx2
      by_cases hsl : s < K
      · have hs0 : (0 : Int) ≤ (s : Int) := by omega
        have hs1 : (s : Int) < (K : Int) := by omega
        have hsk : s < ks.length := by have := HK.out; omega
        obtain ⟨kb, ko, rfl, hkb, t0⟩ := HKR.out.at s hsk
        obtain ⟨c, hc⟩ : ∃ c, Hid (ks[s] = c) := ⟨_, (rfl : ks[s] = ks[s])⟩
        have g4 := (HBX.out.cell (p := ⟨kb, ko + s, none⟩) hkb).trans t0
        rw [hc.out] at g4
        have hx2 := HST.out.turned.size
        have cR : Hid (Calls Try.prog 79 #[.pointer (some ⟨x, 0, none⟩), .int .i64 c, .int .i64 (D - 1)] wr (CopyPost ns x B N fc (some ⟨b, off, none⟩) d c wr (.slice va2 ps2.length vc2) ps2)) := by
          rw [← HD2.out]
          exact IH.out c wr va2 vc2 ps2 (by omega) (HI.out.2.keep HBX.out) HST.out.put (by have := HST.out.len; omega)
        clear t0
        go_wp2_with fail
        go_at_call 79
        refine Calls.mono cR.out ?_
        rintro e w1 ⟨va3, vc3, ps3, hI3, hT3, hl3, hP3⟩
        rcases hP3 with ⟨r, hr, hrp, rfl⟩ | ⟨hno, rfl⟩
        · have HO1 : Hid (OwnsI w1 (w.heap.size + 1) (.slice ka2 kn2 kc2) ks2) := hT3.row HST.out.kids HST.out.off
          have hkl2 : ks2.length ≤ 10000000 := by have := HST.out.klen; omega
          have hwz : w.heap.size + 1 ≤ w1.heap.size := by have := hT3.size; omega
          have HT3 : Hid (PutIn x B (.cells #[.slice (some ⟨b, off, none⟩) N fc, .slice va3 ps3.length vc3] 101 (0, 0)) w1 (.slice va3 ps3.length vc3) ps3 ∧ Turned x wr w1 (.slice va2 ps2.length vc2) (.slice va3 ps3.length vc3) ps2 ps3 ∧ ps3.length ≤ max ps2.length 300 ∧ pack ns d c (ps2.map Prod.fst) = some r ∧ ps3.map Prod.fst = r.1) := ⟨hI3, hT3, hl3, hr, hrp⟩
          obtain ⟨r1, r2⟩ := r
          clear hI3 hT3 hl3 hr hrp cR g1 g4 y0 y1 y2
          simp only
          go_wp2_with (at_builtin; go_must (refine appendRA inC_len rfl _ _ 43 rfl (w.heap.size + 1) 3 _ 8 Try.underlying43 Try.infoInt rfl (by decide) HO1.out r2 (inC_ones _) rfl (by first | rfl | (simp [Act.eval]; done)) hkl2 (by omega) hwz ?_); intro v4 w4 hown4 hg4 hat4 hv4; obtain ⟨g4, cap4, rfl⟩ := hv4)
          have HNX : Hid (∃ p1 p2 p3 p4, CopySt ns x B N fc (some ⟨b, off, none⟩) d w (.slice va ps.length vc) ps w.heap.size (.cells #[.int .i64 kd, .int .i64 nm, .string tx, .slice (some ⟨kb, ko, none⟩) K kc] 70) ks (s + 1) w4 p1 p2 p3 (some ⟨g4, 0, none⟩) (ks2.length + 1) cap4 p4) :=
            ⟨_, _, _, _, HST.out.next (Nat.le_refl _) hsk HT3.out.1 HT3.out.2.1 HT3.out.2.2.1 (r1, r2) (by rw [hc.out]; exact HT3.out.2.2.2.1) HT3.out.2.2.2.2 hown4 hg4 hat4⟩
          clear hown4 hg4 hat4 HO1 HT3
          go_wp2
          go_roundw
          case rel => exact ⟨s + 1, by omega, by go_num, _, _, _, rfl, HNX⟩
          case measure => simp [intOf]; omega
        · have HF : Hid (∀ e, e = Ending.returned (.tuple #[.int .i64 0, .bool false]) → CopyPost ns x B N fc (some ⟨b, off, none⟩) (d + 1) (m : Int) w (.slice va ps.length vc) ps e w1) := fun e he =>
            ⟨va3, vc3, ps3, hI3, HST.out.turned.trans hT3, by have := HST.out.len; omega, .inr ⟨by
              rw [pack_one _ (by rw [HN.out]; exact hin) HQ.out]
              have h1 : packL (pack ns d) (ks.take (s + 1)) (ps.map Prod.fst) = none := by
                rw [List.take_succ_eq_append_getElem hsk, packL_snoc, HST.out.yes]
                simp only [Option.bind_some]
                rw [hc.out, hno]
                rfl
              rw [packL_take_none h1]
              rfl, he⟩⟩
          clear hI3 hT3 hl3 hno cR g1 g4 y0 y1 y2
          go_wp2
          go_ret2
          exact HF.out _ rfl
      · have HE : Hid (packL (pack ns d) ks (ps.map Prod.fst) = some (ps2.map Prod.fst, ks2)) := by
          have h1 := HST.out.yes
          rw [show s = ks.length by have := HK.out; omega, List.take_length] at h1
          exact h1
        by_cases h300 : 300 ≤ L2
        · have h3 : (300 : Int) ≤ (L2 : Int) := by omega
          have HF : Hid (∀ e, e = Ending.returned (.tuple #[.int .i64 0, .bool false]) → CopyPost ns x B N fc (some ⟨b, off, none⟩) (d + 1) (m : Int) w (.slice va ps.length vc) ps e wr) := fun e he =>
            ⟨va2, vc2, ps2, HST.out.put, HST.out.turned, HST.out.len, .inr ⟨by
              rw [pack_one _ (by rw [HN.out]; exact hin) HQ.out, HE.out]
              simp only [Option.bind_some, List.length_map]
              rw [if_pos (by rw [HL2.out]; exact h300)], he⟩⟩
          go_wp2
          go_ret2
          exact HF.out _ rfl
        have h3 : ¬ (300 : Int) ≤ (L2 : Int) := by omega
        have hx2 := HST.out.turned.size
        have HOn : Hid (∀ W, Below wr.heap.size wr W → OwnsR ndC 4 W B 70 (.slice va2 L2 vc2) ps2) := fun W hW => by
          have h1 := HST.out.put.phys.1
          rw [HL2.out] at h1
          exact OwnsR.below h1 hW
        have HXa : Hid (∀ W, Below wr.heap.size wr W → W.heap[x]? = some (.cells #[.slice (some ⟨b, off, none⟩) N fc, .slice va2 L2 vc2] 101 (0, 0))) := fun W hW => by
          have h1 := HST.out.put.at_
          rw [HL2.out] at h1
          exact (hW.block x hxr).trans h1
        have HNv : Hid (some x ≠ (Value.slice va2 L2 vc2).ownBlock) := by
          have h1 := HST.out.put.nv
          rw [HL2.out] at h1
          exact h1
        have hpl : ps2.length ≤ 10000000 := by have := HST.out.len; omega
        have hnm : tx.size ≤ 281474976710656 := by omega
        go_wp2_with fail
        go_region_law (first | (go_simp; go_at_call 84; refine Calls.mono (Clone_any tx _ hnm) ?_; rintro e wC ⟨rfl, hbC⟩; have hbC1 : Below wr.heap.size wr wC := (Below.refl _ _).drew.trans hbC; have k0 := (hbC1.cell (p := ⟨w.heap.size, 0, none⟩) hyr).trans y0; have k1 := (hbC1.cell (p := ⟨w.heap.size, 1, none⟩) hyr).trans y1; have k3 := (hbC1.cell (p := ⟨x, 1, none⟩) hxr).trans g1; have hxC : x < wC.heap.size := Nat.lt_of_lt_of_le hxr hbC1.size; have hyC : w.heap.size < wC.heap.size := Nat.lt_of_lt_of_le hyr hbC1.size) | (refine step_appendRA (enc := ndC) (k := 4) (fun _ => rfl) rfl _ _ 27 rfl B 70 _ 56 Try.underlying27 Try.infoNode rfl (by decide) (HOn.out (wC.alloc (.cells #[.int .i64 kd, .int .i64 nm, .string tx, .slice ka2 kn2 kc2] 70)) (hbC1.alloc hbC1.size _)) (⟨kd, nm, tx, ks2⟩, .slice ka2 kn2 kc2) (ndC_onesB _ _ _ _) wC.heap.size (0, 0) (heap_alloc_new _ _) rfl rfl hpl (by omega) (by have := hbC1.size; simp; omega) ?_; intro v5 w5 hown5 hg5 hat5 hv5; obtain ⟨g5, cap5, rfl⟩ := hv5; have hX5 := (hg5.block x (by have := hbC1.size; simp; omega) HNv.out).trans (HXa.out _ (hbC1.alloc hbC1.size _)); have z1 := cell_at hX5 1; have fz1 := free_at hX5 1; simp at z1))
        all_goals
          have HFin : Hid (∀ e, e = Ending.returned (.tuple #[.int .i64 (ps2.length : Int), .bool true]) → CopyPost ns x B N fc (some ⟨b, off, none⟩) (d + 1) (m : Int) w (.slice va ps.length vc) ps e (w5.setCell ⟨x, 1, none⟩ (.slice (some ⟨g5, 0, none⟩) (ps2.length + 1) cap5))) := by
            intro e he
            have hb1 : Below wr.heap.size wr (wC.alloc (.cells #[.int .i64 kd, .int .i64 nm, .string tx, .slice ka2 kn2 kc2] 70)) := hbC1.alloc hbC1.size _
            have hT : Turned x w (wC.alloc (.cells #[.int .i64 kd, .int .i64 nm, .string tx, .slice ka2 kn2 kc2] 70)) (.slice va ps.length vc) (.slice va2 ps2.length vc2) ps ps2 := HST.out.turned.after hb1.os hb1.tape hb1.output hb1.size (fun g hg => hb1.block g (by omega))
            have hk : OwnsI (wC.alloc (.cells #[.int .i64 kd, .int .i64 nm, .string tx, .slice ka2 kn2 kc2] 70)) B (.slice ka2 kn2 kc2) ks2 := OwnsR.base (OwnsR.below HST.out.kids hb1) (fun g hg => by have := (OwnsR.lt HST.out.kids g hg).1; omega)
            rw [← HL2.out] at hg5 hat5
            obtain ⟨h1, h2⟩ := PutIn.more (j := 1) (p := (⟨kd, nm, tx, ks2⟩, .slice ka2 kn2 kc2)) (HST.out.put.below hb1) hT hk (fun g hg => ⟨HST.out.off g hg, by have := (OwnsR.lt HST.out.kids g hg).1; omega⟩) hown5 hg5 hat5
            refine ⟨some ⟨g5, 0, none⟩, cap5, ps2 ++ [(⟨kd, nm, tx, ks2⟩, .slice ka2 kn2 kc2)], ?_, ?_, ?_, .inl ⟨((ps2.map Prod.fst) ++ [⟨kd, nm, tx, ks2⟩], (ps2.length : Int)), ?_, ?_, he⟩⟩
            · rw [List.length_append, List.length_singleton]
              simpa using h1
            · rw [List.length_append, List.length_singleton]
              exact h2
            · rw [List.length_append, List.length_singleton]
              have := HL2.out
              omega
            · rw [pack_one _ (by rw [HN.out]; exact hin) HQ.out, HE.out]
              simp only [Option.bind_some, List.length_map]
              rw [if_neg (by rw [HL2.out]; exact h300)]
            · rw [List.map_append]
              rfl
          have hwr : IntKind.i64.wrap ((ps2.length + 1 : Nat) - 1 : Int) = (ps2.length : Int) := by rw [IntWalk.i64_in _ ⟨by omega, by omega⟩]; omega
          clear hown5 hg5 hat5 HOn HXa HNv HST g1 y0 y1 y2 k0 k1 k3
          go_wp2
          go_ret2
          exact HFin.out _ rfl

end Go.Proofs.Ytjafneaaefpefaa
