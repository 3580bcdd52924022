/-
  Nodes put one behind the other, in the model: the walk.
-/
import Derived.Test.YtjafneaaefpefaaPackS
import Derived.Deep.RegionLaw
namespace Go.Proofs.Ytjafneaaefpefaa
open Go.RowKit

theorem ndC_onesA (q : Nd) (a : Option Addr) (n c : Nat) : ∀ u ∈ ndC (q, .slice a n c), u.oneCell' = true := by
  intro u hu
  simp [ndC] at hu
  rcases hu with rfl | rfl | rfl | rfl <;> rfl

set_option maxRecDepth 100000 in
set_option maxHeartbeats 6400000 in
theorem packPut_any (ns : List Nd) (x B N fc : Nat) (fa : Option Addr) (HN : Hid (ns.length = N)) (hNl : N ≤ 1048576) (hkl : Hid (∀ q ∈ ns, q.kids.length ≤ 1048576)) : ∀ d : Nat, d ≤ 10 → PackCall Try.prog ns x B N fc fa d := by
  intro d
  induction d with
  | zero =>
    intro _ k w va vc ps bad hBw hR hI hl
    have HF : Hid (∀ e, e = Ending.returned (.int .i64 (-1)) → PackPost ns x B N fc fa 0 k w (.slice va ps.length vc) ps bad e (w.setCell ⟨x, 2, none⟩ (.bool true))) := fun e he => pack_no hI (Below.refl _ _) hl (.inr (.inr rfl)) e he
    have c2 := cell_at hI.at_ 2
    have f2 := free_at hI.at_ 2
    simp at c2
    clear hR hI
    cases bad
    all_goals
      go_enter Try.func77, Try.ntmps77
      go_wp2
      go_ret
      exact HF.out _ rfl
  | succ d ih =>
    intro hd k w va vc ps bad hBw hR hI hl
    have IH : Hid (PackCall Try.prog ns x B N fc fa d) := ih (by omega)
    clear ih
    have HI : Hid (PutIn x B (.cells #[.slice fa N fc, .slice va ps.length vc, .bool bad] 98 (0, 0)) w (.slice va ps.length vc) ps ∧ NdR.Row w B (.slice fa N fc) ns) := ⟨hI, hR⟩
    have c0 := cell_at hI.at_ 0
    have c1 := cell_at hI.at_ 1
    have c2 := cell_at hI.at_ 2
    have f2 := free_at hI.at_ 2
    simp at c0 c1 c2
    have hxw : x < w.heap.size := heap_in hI.at_
    have HNO : Hid (∀ w1, Below w.heap.size w w1 → (bad = true ∨ 300 < ps.length ∨ pack ns (d + 1) k (ps.map Prod.fst) = none) → ∀ e, e = Ending.returned (.int .i64 (-1)) → PackPost ns x B N fc fa (d + 1) k w (.slice va ps.length vc) ps bad e (w1.setCell ⟨x, 2, none⟩ (.bool true))) := fun w1 hb hno e he => pack_no hI hb hl hno e he
    obtain ⟨D, hD⟩ : ∃ D : Int, Hid (11 - ((d + 1 : Nat) : Int) = D) := ⟨_, (rfl : 11 - ((d + 1 : Nat) : Int) = 11 - ((d + 1 : Nat) : Int))⟩
    rw [hD.out]
    have hd1 : D ≤ 10 := by have := hD.out; omega
    have hd3 : 0 < D := by have := hD.out; omega
    have HD2 : Hid (11 - (d : Int) = D + 1) := by show _ = _; have := hD.out; omega
    clear hR hI
    cases bad
    rotate_left
    · have HF := HNO.out w (Below.refl _ _) (.inl rfl)
      have HF2 : Hid (∀ e, e = Ending.returned (.int .i64 (-1)) → PackPost ns x B N fc fa (d + 1) k w (.slice va ps.length vc) ps true e (w.setCell ⟨x, 2, none⟩ (.bool true))) := HF
      clear HF
      go_enter Try.func77, Try.ntmps77
      go_wp2
      go_ret
      exact HF2.out _ rfl
    obtain ⟨L, HL⟩ : ∃ L, Hid (ps.length = L) := ⟨_, (rfl : ps.length = ps.length)⟩
    rw [HL.out] at c1 hl
    have HP : Hid (PackPost ns x B N fc fa (d + 1) k w (.slice va ps.length vc) ps false = PackPost ns x B N fc fa (d + 1) k w (.slice va L vc) ps false) := by show _ = _; rw [HL.out]
    rw [HL.out] at HI HNO
    rw [HP.out]
    clear HP
    by_cases hin : isIn k 0 ((N : Int) - 1) = true
    rotate_left
    · have hin' : isIn k 0 ((N : Int) - 1) = false := Bool.eq_false_iff.mpr hin
      have HF : Hid (∀ w1, Below w.heap.size w w1 → ∀ e, e = Ending.returned (.int .i64 (-1)) → PackPost ns x B N fc fa (d + 1) k w (.slice va L vc) ps false e (w1.setCell ⟨x, 2, none⟩ (.bool true))) := fun w1 hb e he => HNO.out w1 hb (.inr (.inr (by simp only [pack]; rw [HN.out, if_neg hin]))) e he
      go_enter Try.func77, Try.ntmps77
      go_wp2_with (go_at_call 51; refine (l01In_is _ _ _ _).mono ?_; rintro e w1 ⟨rfl, hw1⟩; have hw2 := hw1.symm; subst hw2; rw [hin'])
      go_ret
      exact HF.out _ (Below.refl _ _) _ rfl
    by_cases hL : 300 < L
    · have HF : Hid (∀ w1, Below w.heap.size w w1 → ∀ e, e = Ending.returned (.int .i64 (-1)) → PackPost ns x B N fc fa (d + 1) k w (.slice va L vc) ps false e (w1.setCell ⟨x, 2, none⟩ (.bool true))) := fun w1 hb e he => HNO.out w1 hb (.inr (.inl hL)) e he
      have hL' : (300 : Int) < (L : Int) := by omega
      go_enter Try.func77, Try.ntmps77
      go_wp2_with (go_at_call 51; refine (l01In_is _ _ _ _).mono ?_; rintro e w1 ⟨rfl, hw1⟩; have hw2 := hw1.symm; subst hw2; rw [hin])
      go_ret
      exact HF.out _ (Below.refl _ _) _ rfl
    clear HNO
    have hL' : ¬ (300 : Int) < (L : Int) := by omega
    have hkb : 0 ≤ k ∧ k < (N : Int) := by simp [isIn] at hin; omega
    obtain ⟨m, rfl⟩ : ∃ m : Nat, k = (m : Int) := ⟨k.toNat, by omega⟩
    have hm0 : (0 : Int) ≤ (m : Int) := by omega
    have hm1 : (m : Int) < (N : Int) := by omega
    have hml : m < ns.length := by rw [HN.out]; omega
    obtain ⟨b, off, ka, kc, rfl, hb, e0, e1, e2, e3, hK⟩ := RowNd.at HI.out.2 m hml
    have hkx := hkl.out ns[m] (List.getElem_mem hml)
    obtain ⟨q, hq⟩ : ∃ q, Hid (ns[m] = q) := ⟨_, (rfl : ns[m] = ns[m])⟩
    rw [hq.out] at e0 e1 e2 e3 hK hkx
    have HQ : Hid (ns.getD m nd0 = q) := by show _ = _; rw [← hq.out]; simp [List.getD, hml]
    obtain ⟨kd, nm, tx, ks⟩ := q
    simp only at e0 e1 e2 e3 hK hkx
    obtain ⟨K, HK⟩ : ∃ K, Hid (ks.length = K) := ⟨_, (rfl : ks.length = ks.length)⟩
    rw [HK.out] at e3 hK hkx
    have HKR : Hid (RowI w B (.slice ka K kc) ks) := hK
    have hbw : b < w.heap.size := by omega
    have hbx : b ≠ x := by have := HI.out.1.lb; omega
    clear hK hkb
    go_enter Try.func77, Try.ntmps77
    go_wp2_with (go_at_call 51; refine (l01In_is _ _ _ _).mono ?_; rintro e w1 ⟨rfl, hw1⟩; have hw2 := hw1.symm; subst hw2; rw [hin])
    go_region_held3 (fun w' => w'.cell? ⟨x, 0, none⟩ = some (.slice (some ⟨b, off, none⟩) N fc) ∧ w'.cell? ⟨b, off + m * 4, none⟩ = some (.int .i64 kd) ∧ w'.cell? ⟨b, off + m * 4 + 1, none⟩ = some (.int .i64 nm) ∧ w'.cell? ⟨b, off + m * 4 + 2, none⟩ = some (.string tx)) (first | exact ⟨c0, e0, e1, e2⟩ | go_keep) (fail)
    generalize hW1 : (w.alloc (.cells #[.int .i64 kd, .int .i64 nm, .string tx, .slice none 0 0] 70)).drew = W1
    obtain ⟨y, hy⟩ : ∃ y, Hid (w.heap.size = y) := ⟨_, (rfl : w.heap.size = w.heap.size)⟩
    rw [hy.out]
    have HS : Hid (∃ va2 vc2 ps2 bad2 ka2 kn2 kc2 ks2, PackSt ns x B N fc (some ⟨b, off, none⟩) d w (.slice va L vc) ps y kd nm tx ks 0 W1 va2 vc2 ps2 bad2 ka2 kn2 kc2 ks2) := by
      have hbl : Below w.heap.size w W1 := by rw [← hW1]; go_grown
      have hI : PutIn x B (.cells #[.slice (some ⟨b, off, none⟩) N fc, .slice va ps.length vc, .bool false] 98 (0, 0)) w (.slice va ps.length vc) ps := by rw [HL.out]; exact HI.out.1
      have hI1 := hI.below hbl
      refine ⟨va, vc, ps, false, none, 0, 0, [], hI1, by rw [← HL.out]; exact Turned.of_below hbl, ?_, ownsR_nil _ _ _ _ _, fun g hg => by simp [fpOf, Value.ownBlock] at hg, ?_, by rw [HL.out]; omega, by simp, ?_, ?_⟩
      · rw [← hW1, ← hy.out]
        exact heap_alloc_new _ _
      · exact hI.off (by rw [← hy.out]; exact Nat.le_refl _)
      · intro r hr
        simp [packL] at hr
        subst hr
        exact ⟨rfl, rfl, rfl⟩
      · intro hr
        simp [packL] at hr
    clear hW1 c0 c1 c2 f2 e0 e1 e2
    have hyw : w.heap.size ≤ y := by rw [← hy.out]; exact Nat.le_refl _
    have hDw : IntKind.i64.wrap (D + 1) = D + 1 := IntWalk.i64_in _ ⟨by omega, by omega⟩
    go_wp2
    go_loopw [8] (fun i wr => ∃ s : Nat, s ≤ K ∧ i = .int .i64 (s : Int) ∧ Hid (∃ va2 vc2 ps2 bad2 ka2 kn2 kc2 ks2, PackSt ns x B N fc (some ⟨b, off, none⟩) d w (.slice va L vc) ps y kd nm tx ks s wr va2 vc2 ps2 bad2 ka2 kn2 kc2 ks2)) (fun i _ => K - (intOf i).toNat)
    case atStart => exact ⟨0, Nat.zero_le _, rfl, HS⟩
    case round =>
      obtain ⟨s, hs, rfl, HJ⟩ := hrel
      clear HS
      obtain ⟨va2, vc2, ps2, bad2, ka2, kn2, kc2, ks2, hst⟩ := HJ.out
      have HST : Hid (PackSt ns x B N fc (some ⟨b, off, none⟩) d w (.slice va L vc) ps y kd nm tx ks s wr va2 vc2 ps2 bad2 ka2 kn2 kc2 ks2) := hst
      have hbx : Below B w wr := hst.turned.below HI.out.1
      have hxr : x < wr.heap.size := heap_in hst.put.at_
      have hyr : y < wr.heap.size := heap_in hst.box
      obtain ⟨L2, HL2⟩ : ∃ n, Hid (ps2.length = n) := ⟨_, (rfl : ps2.length = ps2.length)⟩
      have g0 := cell_at hst.put.at_ 0
      have g1 := cell_at hst.put.at_ 1
      have g2 := cell_at hst.put.at_ 2
      have fg1 := free_at hst.put.at_ 1
      have g3 := (hbx.cell (p := ⟨b, off + m * 4 + 3, none⟩) hb).trans e3
      simp at g0 g1 g2
      rw [HL2.out] at g1
      have y0 := cell_at hst.box 0
      have y1 := cell_at hst.box 1
      have y2 := cell_at hst.box 2
      have y3 := cell_at hst.box 3
      have fy3 := free_at hst.box 3
      simp at y0 y1 y2 y3
      have HBX : Hid (Below B w wr) := hbx
      clear hst HJ hbx
      by_cases hsl : s < K
      · have hs0 : (0 : Int) ≤ (s : Int) := by omega
        have hs1 : (s : Int) < (K : Int) := by omega
        have hsk : s < ks.length := by have := HK.out; omega
        cases bad2
        · obtain ⟨kb, ko, rfl, hkb, t0⟩ := HKR.out.at s hsk
          obtain ⟨c, hc⟩ : ∃ c, Hid (ks[s] = c) := ⟨_, (rfl : ks[s] = ks[s])⟩
          have g4 := (HBX.out.cell (p := ⟨kb, ko + s, none⟩) hkb).trans t0
          rw [hc.out] at g4
          have hx2 := HST.out.turned.size
          have cR : Hid (Calls Try.prog 77 #[.pointer (some ⟨x, 0, none⟩), .int .i64 c, .int .i64 (D + 1)] wr (PackPost ns x B N fc (some ⟨b, off, none⟩) d c wr (.slice va2 ps2.length vc2) ps2 false)) := by
            rw [← HD2.out]
            exact IH.out c wr va2 vc2 ps2 false (by omega) (HI.out.2.keep HBX.out) HST.out.put HST.out.len
          clear t0
          go_wp2_with fail
          go_at_call 77
          refine Calls.mono cR.out ?_
          rintro e w1 ⟨a, va3, vc3, ps3, bad3, rfl, hI3, hT3, hl3, hP3⟩
          have HY1 : Hid (w1.heap[y]? = some (.cells #[.int .i64 kd, .int .i64 nm, .string tx, .slice ka2 kn2 kc2] 70 (0, 0))) := (hT3.block hyr HST.out.offy.x HST.out.offy.v).trans HST.out.box
          have hyl1 : y < w1.heap.size := heap_in HY1.out
          have q3 := cell_at HY1.out 3
          simp at q3
          have HO1 : Hid (OwnsI w1 (y + 1) (.slice ka2 kn2 kc2) ks2) := hT3.row HST.out.kids HST.out.off
          have hkl2 : ks2.length ≤ 10000000 := by have := HST.out.klen; omega
          have HT3 : Hid (PutIn x B (.cells #[.slice (some ⟨b, off, none⟩) N fc, .slice va3 ps3.length vc3, .bool bad3] 98 (0, 0)) w1 (.slice va3 ps3.length vc3) ps3 ∧ Turned x wr w1 (.slice va2 ps2.length vc2) (.slice va3 ps3.length vc3) ps2 ps3 ∧ ps3.length ≤ 300 + d ∧ PackSays ns d c false ps2 bad3 ps3 a) := ⟨hI3, hT3, hl3, hP3⟩
          have HNE : Hid (some y ≠ (Value.slice ka2 kn2 kc2).ownBlock) := fun e => by
            have := (OwnsR.lt HST.out.kids y (by simp [fpOf, ← e])).1
            omega
          clear hI3 hT3 hl3 hP3 cR g0 g1 g2 fg1 g3 g4 y0 y1 y2 y3 fy3
          go_wp2_with (at_builtin; go_must (refine appendRA inC_len rfl _ _ 43 rfl (y + 1) 3 _ 8 Try.underlying43 Try.infoInt rfl (by decide) HO1.out a (inC_ones _) rfl (by first | rfl | (simp [Act.eval]; done)) hkl2 (by omega) (by omega) ?_); intro v4 w4 hown4 hg4 hat4 hv4; obtain ⟨g4, cap4, rfl⟩ := hv4; have HX4 := (hg4.block y hyl1 HNE.out).trans HY1.out; have z3 := cell_at HX4 3; have fz3 := free_at HX4 3; simp at z3)
          have HNX : Hid (∃ p1 p2 p3 p4 p5 p6 p7 p8, PackSt ns x B N fc (some ⟨b, off, none⟩) d w (.slice va L vc) ps y kd nm tx ks (s + 1) (w4.setCell ⟨y, 3, none⟩ (.slice (some ⟨g4, 0, none⟩) (ks2.length + 1) cap4)) p1 p2 p3 p4 p5 p6 p7 p8) :=
            ⟨_, _, _, _, _, _, _, _, HST.out.next hyw hsk HT3.out.1 HT3.out.2.1 HT3.out.2.2.1 (by rw [hc.out]; exact HT3.out.2.2.2) hown4 hg4 hat4⟩
          clear hown4 hg4 hat4 HX4 z3 fz3 HO1 HT3 HNE HY1 q3
          go_wp2
          go_roundw
          case rel => exact ⟨s + 1, by omega, by go_num, HNX⟩
          case measure => simp [intOf]; omega
        · have HE : Hid (s = ks.length ∨ true = true) := .inr rfl
          have hx2 := HST.out.turned.size
          have HOn : Hid (OwnsR ndC 4 (wr.alloc (.cells #[.int .i64 kd, .int .i64 nm, .string tx, .slice ka2 kn2 kc2] 70)).drew B 70 (.slice va2 L2 vc2) ps2) := by
            have h1 := HST.out.put.phys.1
            rw [HL2.out] at h1
            have h2 : Below wr.heap.size wr (wr.alloc (.cells #[.int .i64 kd, .int .i64 nm, .string tx, .slice ka2 kn2 kc2] 70)).drew := by go_grown
            exact OwnsR.below h1 h2
          have HAl : Hid ((wr.alloc (.cells #[.int .i64 kd, .int .i64 nm, .string tx, .slice ka2 kn2 kc2] 70)).drew.heap[wr.heap.size]? = some (.cells #[.int .i64 kd, .int .i64 nm, .string tx, .slice ka2 kn2 kc2] 70)) := heap_alloc_new _ _
          have HXa : Hid ((wr.alloc (.cells #[.int .i64 kd, .int .i64 nm, .string tx, .slice ka2 kn2 kc2] 70)).drew.heap[x]? = some (.cells #[.slice (some ⟨b, off, none⟩) N fc, .slice va2 L2 vc2, .bool true] 98 (0, 0))) := by
            have h1 := HST.out.put.at_
            rw [HL2.out] at h1
            exact (Below.heap_alloc _ _ _ hxr).trans h1
          have HNv : Hid (some x ≠ (Value.slice va2 L2 vc2).ownBlock) := by
            have h1 := HST.out.put.nv
            rw [HL2.out] at h1
            exact h1
          have hpl : ps2.length ≤ 10000000 := by have := HST.out.len; omega
          have hBz : B ≤ (wr.alloc (.cells #[.int .i64 kd, .int .i64 nm, .string tx, .slice ka2 kn2 kc2] 70)).drew.heap.size := by show B ≤ (wr.alloc (.cells #[.int .i64 kd, .int .i64 nm, .string tx, .slice ka2 kn2 kc2] 70)).heap.size; simp; omega
          have hxz : x < (wr.alloc (.cells #[.int .i64 kd, .int .i64 nm, .string tx, .slice ka2 kn2 kc2] 70)).drew.heap.size := by show x < (wr.alloc (.cells #[.int .i64 kd, .int .i64 nm, .string tx, .slice ka2 kn2 kc2] 70)).heap.size; simp; omega
          have hyz : y < (wr.alloc (.cells #[.int .i64 kd, .int .i64 nm, .string tx, .slice ka2 kn2 kc2] 70)).drew.heap.size := by show y < (wr.alloc (.cells #[.int .i64 kd, .int .i64 nm, .string tx, .slice ka2 kn2 kc2] 70)).heap.size; simp; omega
          have HYa : Hid ((wr.alloc (.cells #[.int .i64 kd, .int .i64 nm, .string tx, .slice ka2 kn2 kc2] 70)).drew.heap[y]? = some (.cells #[.int .i64 kd, .int .i64 nm, .string tx, .slice ka2 kn2 kc2] 70)) := (Below.heap_alloc _ _ _ hyr).trans HST.out.box
          have HNy : Hid (some y ≠ (Value.slice va2 L2 vc2).ownBlock) := fun e => HST.out.offy.v (by rw [HL2.out]; simp [fpOf, ← e])
          go_wp2_with fail
          go_region_law (refine step_appendRA (enc := ndC) (k := 4) (fun _ => rfl) rfl _ _ 27 rfl B 70 _ 56 Try.underlying27 Try.infoNode rfl (by decide) HOn.out (⟨kd, nm, tx, ks2⟩, .slice ka2 kn2 kc2) (ndC_onesA _ _ _ _) wr.heap.size (0, 0) HAl.out rfl rfl hpl (by omega) hBz ?_; intro v5 w5 hown5 hg5 hat5 hv5; obtain ⟨g5, cap5, rfl⟩ := hv5; have hX5 := (hg5.block x hxz HNv.out).trans HXa.out; have z1 := cell_at hX5 1; have fz1 := free_at hX5 1; have hY5 := (hg5.block y hyz HNy.out).trans HYa.out; have t0 := cell_at hY5 0; have t1 := cell_at hY5 1; have t2 := cell_at hY5 2; have t3 := cell_at hY5 3; simp at z1 t0 t1 t2 t3)
          all_goals
            have HFin : Hid (∀ e, e = Ending.returned (.int .i64 (ps2.length : Int)) → PackPost ns x B N fc (some ⟨b, off, none⟩) (d + 1) (m : Int) w (.slice va L vc) ps false e (w5.setCell ⟨x, 1, none⟩ (.slice (some ⟨g5, 0, none⟩) (ps2.length + 1) cap5))) := by
              intro e he
              have hb1 : Below wr.heap.size wr (wr.alloc (.cells #[.int .i64 kd, .int .i64 nm, .string tx, .slice ka2 kn2 kc2] 70)).drew := by go_grown
              have hT : Turned x w (wr.alloc (.cells #[.int .i64 kd, .int .i64 nm, .string tx, .slice ka2 kn2 kc2] 70)).drew (.slice va L vc) (.slice va2 ps2.length vc2) ps ps2 := HST.out.turned.after rfl rfl rfl hb1.size (fun g hg => hb1.block g (by omega))
              have hk : OwnsI (wr.alloc (.cells #[.int .i64 kd, .int .i64 nm, .string tx, .slice ka2 kn2 kc2] 70)).drew B (.slice ka2 kn2 kc2) ks2 := OwnsR.base (OwnsR.below HST.out.kids hb1) (fun g hg => by have := (OwnsR.lt HST.out.kids g hg).1; omega)
              rw [← HL2.out] at hg5 hat5
              obtain ⟨h1, h2⟩ := PutIn.more (j := 1) (p := (⟨kd, nm, tx, ks2⟩, .slice ka2 kn2 kc2)) (HST.out.put.below hb1) hT hk (fun g hg => ⟨HST.out.off g hg, by have := (OwnsR.lt HST.out.kids g hg).1; omega⟩) hown5 hg5 hat5
              refine ⟨(ps2.length : Int), some ⟨g5, 0, none⟩, cap5, ps2 ++ [(⟨kd, nm, tx, ks2⟩, .slice ka2 kn2 kc2)], true, he, ?_, ?_, ?_, HST.out.done (.inr rfl) (by rw [HN.out]; exact hin) HQ.out⟩
              · rw [List.length_append, List.length_singleton]
                simpa using h1
              · rw [List.length_append, List.length_singleton]
                exact h2
              · rw [List.length_append, List.length_singleton]
                have := HST.out.len
                omega
            have hwr : IntKind.i64.wrap ((ps2.length + 1 : Nat) - 1 : Int) = (ps2.length : Int) := by rw [IntWalk.i64_in _ ⟨by omega, by omega⟩]; omega
            clear hown5 hg5 hat5 HOn HAl HXa HNv HYa HNy HST g0 g1 g2 fg1 g3 y0 y1 y2 y3 fy3
            go_wp2
            go_ret
            exact HFin.out _ rfl
      · have HE : Hid (s = ks.length ∨ bad2 = true) := .inl (by have := HK.out; omega)
        have hx2 := HST.out.turned.size
        have HOn : Hid (OwnsR ndC 4 (wr.alloc (.cells #[.int .i64 kd, .int .i64 nm, .string tx, .slice ka2 kn2 kc2] 70)).drew B 70 (.slice va2 L2 vc2) ps2) := by
          have h1 := HST.out.put.phys.1
          rw [HL2.out] at h1
          have h2 : Below wr.heap.size wr (wr.alloc (.cells #[.int .i64 kd, .int .i64 nm, .string tx, .slice ka2 kn2 kc2] 70)).drew := by go_grown
          exact OwnsR.below h1 h2
        have HAl : Hid ((wr.alloc (.cells #[.int .i64 kd, .int .i64 nm, .string tx, .slice ka2 kn2 kc2] 70)).drew.heap[wr.heap.size]? = some (.cells #[.int .i64 kd, .int .i64 nm, .string tx, .slice ka2 kn2 kc2] 70)) := heap_alloc_new _ _
        have HXa : Hid ((wr.alloc (.cells #[.int .i64 kd, .int .i64 nm, .string tx, .slice ka2 kn2 kc2] 70)).drew.heap[x]? = some (.cells #[.slice (some ⟨b, off, none⟩) N fc, .slice va2 L2 vc2, .bool bad2] 98 (0, 0))) := by
          have h1 := HST.out.put.at_
          rw [HL2.out] at h1
          exact (Below.heap_alloc _ _ _ hxr).trans h1
        have HNv : Hid (some x ≠ (Value.slice va2 L2 vc2).ownBlock) := by
          have h1 := HST.out.put.nv
          rw [HL2.out] at h1
          exact h1
        have hpl : ps2.length ≤ 10000000 := by have := HST.out.len; omega
        have hBz : B ≤ (wr.alloc (.cells #[.int .i64 kd, .int .i64 nm, .string tx, .slice ka2 kn2 kc2] 70)).drew.heap.size := by show B ≤ (wr.alloc (.cells #[.int .i64 kd, .int .i64 nm, .string tx, .slice ka2 kn2 kc2] 70)).heap.size; simp; omega
        have hxz : x < (wr.alloc (.cells #[.int .i64 kd, .int .i64 nm, .string tx, .slice ka2 kn2 kc2] 70)).drew.heap.size := by show x < (wr.alloc (.cells #[.int .i64 kd, .int .i64 nm, .string tx, .slice ka2 kn2 kc2] 70)).heap.size; simp; omega
        have hyz : y < (wr.alloc (.cells #[.int .i64 kd, .int .i64 nm, .string tx, .slice ka2 kn2 kc2] 70)).drew.heap.size := by show y < (wr.alloc (.cells #[.int .i64 kd, .int .i64 nm, .string tx, .slice ka2 kn2 kc2] 70)).heap.size; simp; omega
        have HYa : Hid ((wr.alloc (.cells #[.int .i64 kd, .int .i64 nm, .string tx, .slice ka2 kn2 kc2] 70)).drew.heap[y]? = some (.cells #[.int .i64 kd, .int .i64 nm, .string tx, .slice ka2 kn2 kc2] 70)) := (Below.heap_alloc _ _ _ hyr).trans HST.out.box
        have HNy : Hid (some y ≠ (Value.slice va2 L2 vc2).ownBlock) := fun e => HST.out.offy.v (by rw [HL2.out]; simp [fpOf, ← e])
        go_wp2_with fail
        go_region_law (refine step_appendRA (enc := ndC) (k := 4) (fun _ => rfl) rfl _ _ 27 rfl B 70 _ 56 Try.underlying27 Try.infoNode rfl (by decide) HOn.out (⟨kd, nm, tx, ks2⟩, .slice ka2 kn2 kc2) (ndC_onesA _ _ _ _) wr.heap.size (0, 0) HAl.out rfl rfl hpl (by omega) hBz ?_; intro v5 w5 hown5 hg5 hat5 hv5; obtain ⟨g5, cap5, rfl⟩ := hv5; have hX5 := (hg5.block x hxz HNv.out).trans HXa.out; have z1 := cell_at hX5 1; have fz1 := free_at hX5 1; have hY5 := (hg5.block y hyz HNy.out).trans HYa.out; have t0 := cell_at hY5 0; have t1 := cell_at hY5 1; have t2 := cell_at hY5 2; have t3 := cell_at hY5 3; simp at z1 t0 t1 t2 t3)
        all_goals
          have HFin : Hid (∀ e, e = Ending.returned (.int .i64 (ps2.length : Int)) → PackPost ns x B N fc (some ⟨b, off, none⟩) (d + 1) (m : Int) w (.slice va L vc) ps false e (w5.setCell ⟨x, 1, none⟩ (.slice (some ⟨g5, 0, none⟩) (ps2.length + 1) cap5))) := by
            intro e he
            have hb1 : Below wr.heap.size wr (wr.alloc (.cells #[.int .i64 kd, .int .i64 nm, .string tx, .slice ka2 kn2 kc2] 70)).drew := by go_grown
            have hT : Turned x w (wr.alloc (.cells #[.int .i64 kd, .int .i64 nm, .string tx, .slice ka2 kn2 kc2] 70)).drew (.slice va L vc) (.slice va2 ps2.length vc2) ps ps2 := HST.out.turned.after rfl rfl rfl hb1.size (fun g hg => hb1.block g (by omega))
            have hk : OwnsI (wr.alloc (.cells #[.int .i64 kd, .int .i64 nm, .string tx, .slice ka2 kn2 kc2] 70)).drew B (.slice ka2 kn2 kc2) ks2 := OwnsR.base (OwnsR.below HST.out.kids hb1) (fun g hg => by have := (OwnsR.lt HST.out.kids g hg).1; omega)
            rw [← HL2.out] at hg5 hat5
            obtain ⟨h1, h2⟩ := PutIn.more (j := 1) (p := (⟨kd, nm, tx, ks2⟩, .slice ka2 kn2 kc2)) (HST.out.put.below hb1) hT hk (fun g hg => ⟨HST.out.off g hg, by have := (OwnsR.lt HST.out.kids g hg).1; omega⟩) hown5 hg5 hat5
            refine ⟨(ps2.length : Int), some ⟨g5, 0, none⟩, cap5, ps2 ++ [(⟨kd, nm, tx, ks2⟩, .slice ka2 kn2 kc2)], bad2, he, ?_, ?_, ?_, HST.out.done HE.out (by rw [HN.out]; exact hin) HQ.out⟩
            · rw [List.length_append, List.length_singleton]
              simpa using h1
            · rw [List.length_append, List.length_singleton]
              exact h2
            · rw [List.length_append, List.length_singleton]
              have := HST.out.len
              omega
          have hwr : IntKind.i64.wrap ((ps2.length + 1 : Nat) - 1 : Int) = (ps2.length : Int) := by rw [IntWalk.i64_in _ ⟨by omega, by omega⟩]; omega
          clear hown5 hg5 hat5 HOn HAl HXa HNv HYa HNy HST g0 g1 g2 fg1 g3 y0 y1 y2 y3 fy3
          go_wp2
          go_ret
          exact HFin.out _ rfl

end Go.Proofs.Ytjafneaaefpefaa
