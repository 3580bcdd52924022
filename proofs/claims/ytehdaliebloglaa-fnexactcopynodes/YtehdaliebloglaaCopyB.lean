/-
  Nodes put one behind the other, in the model: the walk.
  CopyNodes, in the model: what it answers at every program, place and row of nodes.
  Rows of numbers cloned (slices.Clone).
  Rows of nodes made anew, in the program.
  CopyNodes, in the program: what it answers at every program, place and row of nodes.
  The law of CopyNodes: at every program, place and row of nodes it answers true.
-/
import Derived.Test.YtehdaliebloglaaPackS
import Derived.Deep.RegionLaw
import Derived.Test.YtehdaliebloglaaCopyS0
import Derived.Lib.SliceRun
import Derived.Test.YtehdaliebloglaaPack
import Derived.Test.YtehdaliebloglaaClone
import Derived.Test.YtehdaliebloglaaPackJ
import Derived.Test.YtehdaliebloglaaCopyA
namespace Go.Proofs.Ytehdaliebloglaa
open Go.RowKit

theorem ndC_onesA (q : Nd) (a : Option Addr) (n c : Nat) : ∀ u ∈ ndC (q, .slice a n c), u.oneCell' = true := by
  intro u hu
  simp [ndC] at hu
  rcases hu with rfl | rfl | rfl | rfl <;> rfl

set_option maxRecDepth 100000 in
set_option maxHeartbeats 6400000 in
theorem packPut_any (ns : List Nd) (x B N fc : Nat) (fa : Option Addr) (HN : Hid (ns.length = N)) (hNl : N ≤ 1048576) (hkl : Hid (∀ q ∈ ns, q.kids.length ≤ 1048576)) : ∀ d : Nat, d ≤ 10 → PackCall Try.prog ns x B N fc fa d := by
  intro d
  induction d with
  | zero =>
    intro _ k w va vc ps bad hBw hR hI hl
    have HF : Hid (∀ e, e = Ending.returned (.int .i64 (-1)) → PackPost ns x B N fc fa 0 k w (.slice va ps.length vc) ps bad e (w.setCell ⟨x, 2, none⟩ (.bool true))) := fun e he => pack_no hI (Below.refl _ _) hl (.inr (.inr rfl)) e he
    have c2 := cell_at hI.at_ 2
    have f2 := free_at hI.at_ 2
    simp at c2
    clear hR hI
    cases bad
    all_goals
      go_enter Try.func25, Try.ntmps25
      go_wp2
      go_ret
      exact HF.out _ rfl
  | succ d ih =>
    intro hd k w va vc ps bad hBw hR hI hl
    have IH : Hid (PackCall Try.prog ns x B N fc fa d) := ih (by omega)
    clear ih
    have HI : Hid (PutIn x B (.cells #[.slice fa N fc, .slice va ps.length vc, .bool bad] 52 (0, 0)) w (.slice va ps.length vc) ps ∧ NdR.Row w B (.slice fa N fc) ns) := ⟨hI, hR⟩
    have c0 := cell_at hI.at_ 0
    have c1 := cell_at hI.at_ 1
    have c2 := cell_at hI.at_ 2
    have f2 := free_at hI.at_ 2
    simp at c0 c1 c2
    have hxw : x < w.heap.size := heap_in hI.at_
    have HNO : Hid (∀ w1, Below w.heap.size w w1 → (bad = true ∨ 300 < ps.length ∨ pack ns (d + 1) k (ps.map Prod.fst) = none) → ∀ e, e = Ending.returned (.int .i64 (-1)) → PackPost ns x B N fc fa (d + 1) k w (.slice va ps.length vc) ps bad e (w1.setCell ⟨x, 2, none⟩ (.bool true))) := fun w1 hb hno e he => pack_no hI hb hl hno e he
    obtain ⟨D, hD⟩ : ∃ D : Int, Hid (11 - ((d + 1 : Nat) : Int) = D) := ⟨_, (rfl : 11 - ((d + 1 : Nat) : Int) = 11 - ((d + 1 : Nat) : Int))⟩
    rw [hD.out]
    have hd1 : D ≤ 10 := by have := hD.out; omega
    have hd3 : 0 < D := by have := hD.out; omega
    have HD2 : Hid (11 - (d : Int) = D + 1) := by show _ = _; have := hD.out; omega
    clear hR hI
    cases bad
    rotate_left
    · have HF := HNO.out w (Below.refl _ _) (.inl rfl)
      have HF2 : Hid (∀ e, e = Ending.returned (.int .i64 (-1)) → PackPost ns x B N fc fa (d + 1) k w (.slice va ps.length vc) ps true e (w.setCell ⟨x, 2, none⟩ (.bool true))) := HF
      clear HF
      go_enter Try.func25, Try.ntmps25
      go_wp2
      go_ret
      exact HF2.out _ rfl
    obtain ⟨L, HL⟩ : ∃ L, Hid (ps.length = L) := ⟨_, (rfl : ps.length = ps.length)⟩
    rw [HL.out] at c1 hl
    have HP : Hid (PackPost ns x B N fc fa (d + 1) k w (.slice va ps.length vc) ps false = PackPost ns x B N fc fa (d + 1) k w (.slice va L vc) ps false) := by show _ = _; rw [HL.out]
    rw [HL.out] at HI HNO
    rw [HP.out]
    clear HP
    by_cases hin : isIn k 0 ((N : Int) - 1) = true
    rotate_left
    · have hin' : isIn k 0 ((N : Int) - 1) = false := Bool.eq_false_iff.mpr hin
      have HF : Hid (∀ w1, Below w.heap.size w w1 → ∀ e, e = Ending.returned (.int .i64 (-1)) → PackPost ns x B N fc fa (d + 1) k w (.slice va L vc) ps false e (w1.setCell ⟨x, 2, none⟩ (.bool true))) := fun w1 hb e he => HNO.out w1 hb (.inr (.inr (by simp only [pack]; rw [HN.out, if_neg hin]))) e he
      go_enter Try.func25, Try.ntmps25
      go_wp2_with (go_at_call 43; refine (l01In_is _ _ _ _).mono ?_; rintro e w1 ⟨rfl, hw1⟩; have hw2 := hw1.symm; subst hw2; rw [hin'])
      go_ret
      exact HF.out _ (Below.refl _ _) _ rfl
    by_cases hL : 300 < L
    · have HF : Hid (∀ w1, Below w.heap.size w w1 → ∀ e, e = Ending.returned (.int .i64 (-1)) → PackPost ns x B N fc fa (d + 1) k w (.slice va L vc) ps false e (w1.setCell ⟨x, 2, none⟩ (.bool true))) := fun w1 hb e he => HNO.out w1 hb (.inr (.inl hL)) e he
      have hL' : (300 : Int) < (L : Int) := by omega
      go_enter Try.func25, Try.ntmps25
      go_wp2_with (go_at_call 43; refine (l01In_is _ _ _ _).mono ?_; rintro e w1 ⟨rfl, hw1⟩; have hw2 := hw1.symm; subst hw2; rw [hin])
      go_ret
      exact HF.out _ (Below.refl _ _) _ rfl
    clear HNO
    have hL' : ¬ (300 : Int) < (L : Int) := by omega
    have hkb : 0 ≤ k ∧ k < (N : Int) := by simp [isIn] at hin; omega
    obtain ⟨m, rfl⟩ : ∃ m : Nat, k = (m : Int) := ⟨k.toNat, by omega⟩
    have hm0 : (0 : Int) ≤ (m : Int) := by omega
    have hm1 : (m : Int) < (N : Int) := by omega
    have hml : m < ns.length := by rw [HN.out]; omega
    obtain ⟨b, off, ka, kc, rfl, hb, e0, e1, e2, e3, hK⟩ := RowNd.at HI.out.2 m hml
    have hkx := hkl.out ns[m] (List.getElem_mem hml)
    obtain ⟨q, hq⟩ : ∃ q, Hid (ns[m] = q) := ⟨_, (rfl : ns[m] = ns[m])⟩
    rw [hq.out] at e0 e1 e2 e3 hK hkx
    have HQ : Hid (ns.getD m nd0 = q) := by show _ = _; rw [← hq.out]; simp [List.getD, hml]
    obtain ⟨kd, nm, tx, ks⟩ := q
    simp only at e0 e1 e2 e3 hK hkx
    obtain ⟨K, HK⟩ : ∃ K, Hid (ks.length = K) := ⟨_, (rfl : ks.length = ks.length)⟩
    rw [HK.out] at e3 hK hkx
    have HKR : Hid (RowI w B (.slice ka K kc) ks) := hK
    have hbw : b < w.heap.size := by omega
    have hbx : b ≠ x := by have := HI.out.1.lb; omega
    clear hK hkb
    go_enter Try.func25, Try.ntmps25
    go_wp2_with (go_at_call 43; refine (l01In_is _ _ _ _).mono ?_; rintro e w1 ⟨rfl, hw1⟩; have hw2 := hw1.symm; subst hw2; rw [hin])
    go_region_held3 (fun w' => w'.cell? ⟨x, 0, none⟩ = some (.slice (some ⟨b, off, none⟩) N fc) ∧ w'.cell? ⟨b, off + m * 4, none⟩ = some (.int .i64 kd) ∧ w'.cell? ⟨b, off + m * 4 + 1, none⟩ = some (.int .i64 nm) ∧ w'.cell? ⟨b, off + m * 4 + 2, none⟩ = some (.string tx)) (first | exact ⟨c0, e0, e1, e2⟩ | go_keep) (fail)
    generalize hW1 : (w.alloc (.cells #[.int .i64 kd, .int .i64 nm, .string tx, .slice none 0 0] 55)).drew = W1
    obtain ⟨y, hy⟩ : ∃ y, Hid (w.heap.size = y) := ⟨_, (rfl : w.heap.size = w.heap.size)⟩
    rw [hy.out]
    have HS : Hid (∃ va2 vc2 ps2 bad2 ka2 kn2 kc2 ks2, PackSt ns x B N fc (some ⟨b, off, none⟩) d w (.slice va L vc) ps y kd nm tx ks 0 W1 va2 vc2 ps2 bad2 ka2 kn2 kc2 ks2) := by
      have hbl : Below w.heap.size w W1 := by rw [← hW1]; go_grown
      have hI : PutIn x B (.cells #[.slice (some ⟨b, off, none⟩) N fc, .slice va ps.length vc, .bool false] 52 (0, 0)) w (.slice va ps.length vc) ps := by rw [HL.out]; exact HI.out.1
      have hI1 := hI.below hbl
      refine ⟨va, vc, ps, false, none, 0, 0, [], hI1, by rw [← HL.out]; exact Turned.of_below hbl, ?_, ownsR_nil _ _ _ _ _, fun g hg => by simp [fpOf, Value.ownBlock] at hg, ?_, by rw [HL.out]; omega, by simp, ?_, ?_⟩
      · rw [← hW1, ← hy.out]
        exact heap_alloc_new _ _
      · exact hI.off (by rw [← hy.out]; exact Nat.le_refl _)
      · intro r hr
        simp [packL] at hr
        subst hr
        exact ⟨rfl, rfl, rfl⟩
      · intro hr
        simp [packL] at hr
    clear hW1 c0 c1 c2 f2 e0 e1 e2
    have hyw : w.heap.size ≤ y := by rw [← hy.out]; exact Nat.le_refl _
    have hDw : IntKind.i64.wrap (D + 1) = D + 1 := IntWalk.i64_in _ ⟨by omega, by omega⟩
    go_wp2
    go_loopw [8] (fun i wr => ∃ s : Nat, s ≤ K ∧ i = .int .i64 (s : Int) ∧ Hid (∃ va2 vc2 ps2 bad2 ka2 kn2 kc2 ks2, PackSt ns x B N fc (some ⟨b, off, none⟩) d w (.slice va L vc) ps y kd nm tx ks s wr va2 vc2 ps2 bad2 ka2 kn2 kc2 ks2)) (fun i _ => K - (intOf i).toNat)
    case atStart => exact ⟨0, Nat.zero_le _, rfl, HS⟩
    case round =>
      obtain ⟨s, hs, rfl, HJ⟩ := hrel
      clear HS
      obtain ⟨va2, vc2, ps2, bad2, ka2, kn2, kc2, ks2, hst⟩ := HJ.out
      have HST : Hid (PackSt ns x B N fc (some ⟨b, off, none⟩) d w (.slice va L vc) ps y kd nm tx ks s wr va2 vc2 ps2 bad2 ka2 kn2 kc2 ks2) := hst
      have hbx : Below B w wr := hst.turned.below HI.out.1
      have hxr : x < wr.heap.size := heap_in hst.put.at_
      have hyr : y < wr.heap.size := heap_in hst.box
      obtain ⟨L2, HL2⟩ : ∃ n, Hid (ps2.length = n) := ⟨_, (rfl : ps2.length = ps2.length)⟩
      have g0 := cell_at hst.put.at_ 0
      have g1 := cell_at hst.put.at_ 1
      have g2 := cell_at hst.put.at_ 2
      have fg1 := free_at hst.put.at_ 1
      have g3 := (hbx.cell (p := ⟨b, off + m * 4 + 3, none⟩) hb).trans e3
      simp at g0 g1 g2
      rw [HL2.out] at g1
      have y0 := cell_at hst.box 0
      have y1 := cell_at hst.box 1
      have y2 := cell_at hst.box 2
      have y3 := cell_at hst.box 3
      have fy3 := free_at hst.box 3
      simp at y0 y1 y2 y3
      have HBX : Hid (Below B w wr) := hbx
      clear hst HJ hbx
      by_cases hsl : s < K
      · have hs0 : (0 : Int) ≤ (s : Int) := by omega
        have hs1 : (s : Int) < (K : Int) := by omega
        have hsk : s < ks.length := by have := HK.out; omega
        cases bad2
        · obtain ⟨kb, ko, rfl, hkb, t0⟩ := HKR.out.at s hsk
          obtain ⟨c, hc⟩ : ∃ c, Hid (ks[s] = c) := ⟨_, (rfl : ks[s] = ks[s])⟩
          have g4 := (HBX.out.cell (p := ⟨kb, ko + s, none⟩) hkb).trans t0
          rw [hc.out] at g4
          have hx2 := HST.out.turned.size
          have cR : Hid (Calls Try.prog 25 #[.pointer (some ⟨x, 0, none⟩), .int .i64 c, .int .i64 (D + 1)] wr (PackPost ns x B N fc (some ⟨b, off, none⟩) d c wr (.slice va2 ps2.length vc2) ps2 false)) := by
            rw [← HD2.out]
            exact IH.out c wr va2 vc2 ps2 false (by omega) (HI.out.2.keep HBX.out) HST.out.put HST.out.len
          clear t0
          go_wp2_with fail
          go_at_call 25
          refine Calls.mono cR.out ?_
          rintro e w1 ⟨a, va3, vc3, ps3, bad3, rfl, hI3, hT3, hl3, hP3⟩
          have HY1 : Hid (w1.heap[y]? = some (.cells #[.int .i64 kd, .int .i64 nm, .string tx, .slice ka2 kn2 kc2] 55 (0, 0))) := (hT3.block hyr HST.out.offy.x HST.out.offy.v).trans HST.out.box
          have hyl1 : y < w1.heap.size := heap_in HY1.out
          have q3 := cell_at HY1.out 3
          simp at q3
          have HO1 : Hid (OwnsI w1 (y + 1) (.slice ka2 kn2 kc2) ks2) := hT3.row HST.out.kids HST.out.off
          have hkl2 : ks2.length ≤ 10000000 := by have := HST.out.klen; omega
          have HT3 : Hid (PutIn x B (.cells #[.slice (some ⟨b, off, none⟩) N fc, .slice va3 ps3.length vc3, .bool bad3] 52 (0, 0)) w1 (.slice va3 ps3.length vc3) ps3 ∧ Turned x wr w1 (.slice va2 ps2.length vc2) (.slice va3 ps3.length vc3) ps2 ps3 ∧ ps3.length ≤ 300 + d ∧ PackSays ns d c false ps2 bad3 ps3 a) := ⟨hI3, hT3, hl3, hP3⟩
          have HNE : Hid (some y ≠ (Value.slice ka2 kn2 kc2).ownBlock) := fun e => by
            have := (OwnsR.lt HST.out.kids y (by simp [fpOf, ← e])).1
            omega
          clear hI3 hT3 hl3 hP3 cR g0 g1 g2 fg1 g3 g4 y0 y1 y2 y3 fy3
          go_wp2_with (at_builtin; go_must (refine appendRA inC_len rfl _ _ 46 rfl (y + 1) 3 _ 8 Try.underlying46 Try.infoInt rfl (by decide) HO1.out a (inC_ones _) rfl (by first | rfl | (simp [Act.eval]; done)) hkl2 (by omega) (by omega) ?_); intro v4 w4 hown4 hg4 hat4 hv4; obtain ⟨g4, cap4, rfl⟩ := hv4; have HX4 := (hg4.block y hyl1 HNE.out).trans HY1.out; have z3 := cell_at HX4 3; have fz3 := free_at HX4 3; simp at z3)
          have HNX : Hid (∃ p1 p2 p3 p4 p5 p6 p7 p8, PackSt ns x B N fc (some ⟨b, off, none⟩) d w (.slice va L vc) ps y kd nm tx ks (s + 1) (w4.setCell ⟨y, 3, none⟩ (.slice (some ⟨g4, 0, none⟩) (ks2.length + 1) cap4)) p1 p2 p3 p4 p5 p6 p7 p8) :=
            ⟨_, _, _, _, _, _, _, _, HST.out.next hyw hsk HT3.out.1 HT3.out.2.1 HT3.out.2.2.1 (by rw [hc.out]; exact HT3.out.2.2.2) hown4 hg4 hat4⟩
          clear hown4 hg4 hat4 HX4 z3 fz3 HO1 HT3 HNE HY1 q3
          go_wp2
          go_roundw
          case rel => exact ⟨s + 1, by omega, by go_num, HNX⟩
          case measure => simp [intOf]; omega
        · have HE : Hid (s = ks.length ∨ true = true) := .inr rfl
          have hx2 := HST.out.turned.size
          have HOn : Hid (OwnsR ndC 4 (wr.alloc (.cells #[.int .i64 kd, .int .i64 nm, .string tx, .slice ka2 kn2 kc2] 55)).drew B 55 (.slice va2 L2 vc2) ps2) := by
            have h1 := HST.out.put.phys.1
            rw [HL2.out] at h1
            have h2 : Below wr.heap.size wr (wr.alloc (.cells #[.int .i64 kd, .int .i64 nm, .string tx, .slice ka2 kn2 kc2] 55)).drew := by go_grown
            exact OwnsR.below h1 h2
          have HAl : Hid ((wr.alloc (.cells #[.int .i64 kd, .int .i64 nm, .string tx, .slice ka2 kn2 kc2] 55)).drew.heap[wr.heap.size]? = some (.cells #[.int .i64 kd, .int .i64 nm, .string tx, .slice ka2 kn2 kc2] 55)) := heap_alloc_new _ _
          have HXa : Hid ((wr.alloc (.cells #[.int .i64 kd, .int .i64 nm, .string tx, .slice ka2 kn2 kc2] 55)).drew.heap[x]? = some (.cells #[.slice (some ⟨b, off, none⟩) N fc, .slice va2 L2 vc2, .bool true] 52 (0, 0))) := by
            have h1 := HST.out.put.at_
            rw [HL2.out] at h1
            exact (Below.heap_alloc _ _ _ hxr).trans h1
          have HNv : Hid (some x ≠ (Value.slice va2 L2 vc2).ownBlock) := by
            have h1 := HST.out.put.nv
            rw [HL2.out] at h1
            exact h1
          have hpl : ps2.length ≤ 10000000 := by have := HST.out.len; omega
          have hBz : B ≤ (wr.alloc (.cells #[.int .i64 kd, .int .i64 nm, .string tx, .slice ka2 kn2 kc2] 55)).drew.heap.size := by show B ≤ (wr.alloc (.cells #[.int .i64 kd, .int .i64 nm, .string tx, .slice ka2 kn2 kc2] 55)).heap.size; simp; omega
          have hxz : x < (wr.alloc (.cells #[.int .i64 kd, .int .i64 nm, .string tx, .slice ka2 kn2 kc2] 55)).drew.heap.size := by show x < (wr.alloc (.cells #[.int .i64 kd, .int .i64 nm, .string tx, .slice ka2 kn2 kc2] 55)).heap.size; simp; omega
          have hyz : y < (wr.alloc (.cells #[.int .i64 kd, .int .i64 nm, .string tx, .slice ka2 kn2 kc2] 55)).drew.heap.size := by show y < (wr.alloc (.cells #[.int .i64 kd, .int .i64 nm, .string tx, .slice ka2 kn2 kc2] 55)).heap.size; simp; omega
          have HYa : Hid ((wr.alloc (.cells #[.int .i64 kd, .int .i64 nm, .string tx, .slice ka2 kn2 kc2] 55)).drew.heap[y]? = some (.cells #[.int .i64 kd, .int .i64 nm, .string tx, .slice ka2 kn2 kc2] 55)) := (Below.heap_alloc _ _ _ hyr).trans HST.out.box
          have HNy : Hid (some y ≠ (Value.slice va2 L2 vc2).ownBlock) := fun e => HST.out.offy.v (by rw [HL2.out]; simp [fpOf, ← e])
          go_wp2_with fail
          go_region_law (refine step_appendRA (enc := ndC) (k := 4) (fun _ => rfl) rfl _ _ 28 rfl B 55 _ 56 Try.underlying28 Try.infoNode rfl (by decide) HOn.out (⟨kd, nm, tx, ks2⟩, .slice ka2 kn2 kc2) (ndC_onesA _ _ _ _) wr.heap.size (0, 0) HAl.out rfl rfl hpl (by omega) hBz ?_; intro v5 w5 hown5 hg5 hat5 hv5; obtain ⟨g5, cap5, rfl⟩ := hv5; have hX5 := (hg5.block x hxz HNv.out).trans HXa.out; have z1 := cell_at hX5 1; have fz1 := free_at hX5 1; have hY5 := (hg5.block y hyz HNy.out).trans HYa.out; have t0 := cell_at hY5 0; have t1 := cell_at hY5 1; have t2 := cell_at hY5 2; have t3 := cell_at hY5 3; simp at z1 t0 t1 t2 t3)
          all_goals
            have HFin : Hid (∀ e, e = Ending.returned (.int .i64 (ps2.length : Int)) → PackPost ns x B N fc (some ⟨b, off, none⟩) (d + 1) (m : Int) w (.slice va L vc) ps false e (w5.setCell ⟨x, 1, none⟩ (.slice (some ⟨g5, 0, none⟩) (ps2.length + 1) cap5))) := by
              intro e he
              have hb1 : Below wr.heap.size wr (wr.alloc (.cells #[.int .i64 kd, .int .i64 nm, .string tx, .slice ka2 kn2 kc2] 55)).drew := by go_grown
              have hT : Turned x w (wr.alloc (.cells #[.int .i64 kd, .int .i64 nm, .string tx, .slice ka2 kn2 kc2] 55)).drew (.slice va L vc) (.slice va2 ps2.length vc2) ps ps2 := HST.out.turned.after rfl rfl rfl hb1.size (fun g hg => hb1.block g (by omega))
              have hk : OwnsI (wr.alloc (.cells #[.int .i64 kd, .int .i64 nm, .string tx, .slice ka2 kn2 kc2] 55)).drew B (.slice ka2 kn2 kc2) ks2 := OwnsR.base (OwnsR.below HST.out.kids hb1) (fun g hg => by have := (OwnsR.lt HST.out.kids g hg).1; omega)
              rw [← HL2.out] at hg5 hat5
              obtain ⟨h1, h2⟩ := PutIn.more (j := 1) (p := (⟨kd, nm, tx, ks2⟩, .slice ka2 kn2 kc2)) (HST.out.put.below hb1) hT hk (fun g hg => ⟨HST.out.off g hg, by have := (OwnsR.lt HST.out.kids g hg).1; omega⟩) hown5 hg5 hat5
              refine ⟨(ps2.length : Int), some ⟨g5, 0, none⟩, cap5, ps2 ++ [(⟨kd, nm, tx, ks2⟩, .slice ka2 kn2 kc2)], true, he, ?_, ?_, ?_, HST.out.done (.inr rfl) (by rw [HN.out]; exact hin) HQ.out⟩
              · rw [List.length_append, List.length_singleton]
                simpa using h1
              · rw [List.length_append, List.length_singleton]
                exact h2
              · rw [List.length_append, List.length_singleton]
                have := HST.out.len
                omega
            have hwr : IntKind.i64.wrap ((ps2.length + 1 : Nat) - 1 : Int) = (ps2.length : Int) := by rw [IntWalk.i64_in _ ⟨by omega, by omega⟩]; omega
            clear hown5 hg5 hat5 HOn HAl HXa HNv HYa HNy HST g0 g1 g2 fg1 g3 y0 y1 y2 y3 fy3
            go_wp2
            go_ret
            exact HFin.out _ rfl
      · have HE : Hid (s = ks.length ∨ bad2 = true) := .inl (by have := HK.out; omega)
        have hx2 := HST.out.turned.size
        have HOn : Hid (OwnsR ndC 4 (wr.alloc (.cells #[.int .i64 kd, .int .i64 nm, .string tx, .slice ka2 kn2 kc2] 55)).drew B 55 (.slice va2 L2 vc2) ps2) := by
          have h1 := HST.out.put.phys.1
          rw [HL2.out] at h1
          have h2 : Below wr.heap.size wr (wr.alloc (.cells #[.int .i64 kd, .int .i64 nm, .string tx, .slice ka2 kn2 kc2] 55)).drew := by go_grown
          exact OwnsR.below h1 h2
        have HAl : Hid ((wr.alloc (.cells #[.int .i64 kd, .int .i64 nm, .string tx, .slice ka2 kn2 kc2] 55)).drew.heap[wr.heap.size]? = some (.cells #[.int .i64 kd, .int .i64 nm, .string tx, .slice ka2 kn2 kc2] 55)) := heap_alloc_new _ _
        have HXa : Hid ((wr.alloc (.cells #[.int .i64 kd, .int .i64 nm, .string tx, .slice ka2 kn2 kc2] 55)).drew.heap[x]? = some (.cells #[.slice (some ⟨b, off, none⟩) N fc, .slice va2 L2 vc2, .bool bad2] 52 (0, 0))) := by
          have h1 := HST.out.put.at_
          rw [HL2.out] at h1
          exact (Below.heap_alloc _ _ _ hxr).trans h1
        have HNv : Hid (some x ≠ (Value.slice va2 L2 vc2).ownBlock) := by
          have h1 := HST.out.put.nv
          rw [HL2.out] at h1
          exact h1
        have hpl : ps2.length ≤ 10000000 := by have := HST.out.len; omega
        have hBz : B ≤ (wr.alloc (.cells #[.int .i64 kd, .int .i64 nm, .string tx, .slice ka2 kn2 kc2] 55)).drew.heap.size := by show B ≤ (wr.alloc (.cells #[.int .i64 kd, .int .i64 nm, .string tx, .slice ka2 kn2 kc2] 55)).heap.size; simp; omega
        have hxz : x < (wr.alloc (.cells #[.int .i64 kd, .int .i64 nm, .string tx, .slice ka2 kn2 kc2] 55)).drew.heap.size := by show x < (wr.alloc (.cells #[.int .i64 kd, .int .i64 nm, .string tx, .slice ka2 kn2 kc2] 55)).heap.size; simp; omega
        have hyz : y < (wr.alloc (.cells #[.int .i64 kd, .int .i64 nm, .string tx, .slice ka2 kn2 kc2] 55)).drew.heap.size := by show y < (wr.alloc (.cells #[.int .i64 kd, .int .i64 nm, .string tx, .slice ka2 kn2 kc2] 55)).heap.size; simp; omega
        have HYa : Hid ((wr.alloc (.cells #[.int .i64 kd, .int .i64 nm, .string tx, .slice ka2 kn2 kc2] 55)).drew.heap[y]? = some (.cells #[.int .i64 kd, .int .i64 nm, .string tx, .slice ka2 kn2 kc2] 55)) := (Below.heap_alloc _ _ _ hyr).trans HST.out.box
        have HNy : Hid (some y ≠ (Value.slice va2 L2 vc2).ownBlock) := fun e => HST.out.offy.v (by rw [HL2.out]; simp [fpOf, ← e])
        go_wp2_with fail
        go_region_law (refine step_appendRA (enc := ndC) (k := 4) (fun _ => rfl) rfl _ _ 28 rfl B 55 _ 56 Try.underlying28 Try.infoNode rfl (by decide) HOn.out (⟨kd, nm, tx, ks2⟩, .slice ka2 kn2 kc2) (ndC_onesA _ _ _ _) wr.heap.size (0, 0) HAl.out rfl rfl hpl (by omega) hBz ?_; intro v5 w5 hown5 hg5 hat5 hv5; obtain ⟨g5, cap5, rfl⟩ := hv5; have hX5 := (hg5.block x hxz HNv.out).trans HXa.out; have z1 := cell_at hX5 1; have fz1 := free_at hX5 1; have hY5 := (hg5.block y hyz HNy.out).trans HYa.out; have t0 := cell_at hY5 0; have t1 := cell_at hY5 1; have t2 := cell_at hY5 2; have t3 := cell_at hY5 3; simp at z1 t0 t1 t2 t3)
        all_goals
          have HFin : Hid (∀ e, e = Ending.returned (.int .i64 (ps2.length : Int)) → PackPost ns x B N fc (some ⟨b, off, none⟩) (d + 1) (m : Int) w (.slice va L vc) ps false e (w5.setCell ⟨x, 1, none⟩ (.slice (some ⟨g5, 0, none⟩) (ps2.length + 1) cap5))) := by
            intro e he
            have hb1 : Below wr.heap.size wr (wr.alloc (.cells #[.int .i64 kd, .int .i64 nm, .string tx, .slice ka2 kn2 kc2] 55)).drew := by go_grown
            have hT : Turned x w (wr.alloc (.cells #[.int .i64 kd, .int .i64 nm, .string tx, .slice ka2 kn2 kc2] 55)).drew (.slice va L vc) (.slice va2 ps2.length vc2) ps ps2 := HST.out.turned.after rfl rfl rfl hb1.size (fun g hg => hb1.block g (by omega))
            have hk : OwnsI (wr.alloc (.cells #[.int .i64 kd, .int .i64 nm, .string tx, .slice ka2 kn2 kc2] 55)).drew B (.slice ka2 kn2 kc2) ks2 := OwnsR.base (OwnsR.below HST.out.kids hb1) (fun g hg => by have := (OwnsR.lt HST.out.kids g hg).1; omega)
            rw [← HL2.out] at hg5 hat5
            obtain ⟨h1, h2⟩ := PutIn.more (j := 1) (p := (⟨kd, nm, tx, ks2⟩, .slice ka2 kn2 kc2)) (HST.out.put.below hb1) hT hk (fun g hg => ⟨HST.out.off g hg, by have := (OwnsR.lt HST.out.kids g hg).1; omega⟩) hown5 hg5 hat5
            refine ⟨(ps2.length : Int), some ⟨g5, 0, none⟩, cap5, ps2 ++ [(⟨kd, nm, tx, ks2⟩, .slice ka2 kn2 kc2)], bad2, he, ?_, ?_, ?_, HST.out.done HE.out (by rw [HN.out]; exact hin) HQ.out⟩
            · rw [List.length_append, List.length_singleton]
              simpa using h1
            · rw [List.length_append, List.length_singleton]
              exact h2
            · rw [List.length_append, List.length_singleton]
              have := HST.out.len
              omega
          have hwr : IntKind.i64.wrap ((ps2.length + 1 : Nat) - 1 : Int) = (ps2.length : Int) := by rw [IntWalk.i64_in _ ⟨by omega, by omega⟩]; omega
          clear hown5 hg5 hat5 HOn HAl HXa HNv HYa HNy HST g0 g1 g2 fg1 g3 y0 y1 y2 y3 fy3
          go_wp2
          go_ret
          exact HFin.out _ rfl

end Go.Proofs.Ytehdaliebloglaa

namespace Go.Proofs.Ytehdaliebloglaa
open Go.RowKit

/-- What CopyNodes answers. -/
def copyAns (ns ms : List Nd) (k : Int) : List Nd × Int := if deepOf ns k = 0 then (ms, -1) else (pack ns 10 k ms).getD (ms, -1)
theorem copyAns_zero {ns ms : List Nd} {k : Int} (h : deepOf ns k = 0) : copyAns ns ms k = (ms, -1) := if_pos h
theorem copyAns_none {ns ms : List Nd} {k : Int} (h : pack ns 10 k ms = none) : copyAns ns ms k = (ms, -1) := by
  unfold copyAns
  split
  · rfl
  · rw [h]; rfl
theorem copyAns_some {ns ms : List Nd} {k : Int} {r : List Nd × Int} (hd : deepOf ns k ≠ 0) (h : pack ns 10 k ms = some r) : copyAns ns ms k = r := by
  unfold copyAns
  rw [if_neg hd, h]
  rfl
theorem pack_long {ns ms : List Nd} {k : Int} {d : Nat} (h : 300 < ms.length) : pack ns d k ms = none := by
  cases hp : pack ns d k ms with
  | none => rfl
  | some r =>
    have := pack_pre ns d k ms r hp
    omega
theorem PutIn.own {x B B0 : Nat} {o : Obj} {w : World} {v : Value} {ps : List (Nd × Value)} (h : PutIn x B o w v ps) (hB : B0 ≤ B) : NdR.Own w B0 w.heap.size v (ps.map Prod.fst) :=
  ⟨ps, rfl, h.phys.base (fun g hg => Nat.le_trans hB (h.phys.lt g hg).1), nd_apart h.phys h.nd, fun g hg => ⟨Nat.le_trans hB (h.phys.lt g hg).1, (h.phys.lt g hg).2⟩⟩
/-- The answer, as a call gives it. -/
def CopyRes (xs : List Nd) (z : Int) (w : World) (e : Ending) (w' : World) : Prop :=
  ∃ (a : Option Addr) (n c : Nat), e = .returned (.tuple #[.slice a n c, .int .i64 z]) ∧ NdR.Own w' w.heap.size w'.heap.size (.slice a n c) xs ∧ Below w.heap.size w w'

set_option maxRecDepth 100000 in
set_option maxHeartbeats 6400000 in
theorem specCopyNodes_any (v0 v1 u : Value) (ns ms : List Nd) (k : Int) (w : World) (hR : NdR.Row w w.heap.size v0 ns) (hS : NdR.Row w w.heap.size u ms) (hl : szRow szNd ns ≤ 1048576) (hl2 : szRow szNd ms ≤ 1048576) (xs : List Nd) (z : Int) (hz : Hid (copyAns ns ms k = (xs, z))) :
    Calls Try.prog 8 #[.agg #[v0, v1], .int .i64 k, u] w (CopyRes xs z w) := by
  obtain ⟨na, nc, rfl⟩ := hR.len
  obtain ⟨ma, mc, rfl⟩ := hS.len
  obtain ⟨N, HN⟩ : ∃ N, Hid (ns.length = N) := ⟨_, (rfl : ns.length = ns.length)⟩
  obtain ⟨M, HM⟩ : ∃ M, Hid (ms.length = M) := ⟨_, (rfl : ms.length = ms.length)⟩
  have HV : Hid (NdR.Row w w.heap.size (.slice na N nc) ns ∧ NdR.Row w w.heap.size (.slice ma M mc) ms) := by rw [← HN.out, ← HM.out]; exact ⟨hR, hS⟩
  have HL : Hid (szRow szNd ns ≤ 1048576 ∧ szRow szNd ms ≤ 1048576) := ⟨hl, hl2⟩
  have hNl : N ≤ 1048576 := by have := len_szRow szNd ns; have := HN.out; omega
  have hMl : M ≤ 1048576 := by have := len_szRow szNd ms; have := HM.out; omega
  rw [HN.out, HM.out]
  obtain ⟨d, hd⟩ : ∃ d, Hid (deepOf ns k = d) := ⟨_, (rfl : deepOf ns k = deepOf ns k)⟩
  have cD : Hid (∀ W, Below w.heap.size w W → Calls Try.prog 23 #[.slice na N nc, .int .i64 k] W fun e w' => e = .returned (.int .i64 d) ∧ Below W.heap.size W w') := fun W hW => by
    rw [← hd.out]
    exact specDeepOf_any _ ns _ W ((HV.out.1.keep hW).up hW.size) HL.out.1
  have cN : Hid (∀ W, Below w.heap.size w W → Calls Try.prog 24 #[.slice ma M mc] W fun e w' => ∃ g cap, e = .returned (.slice (some ⟨g, 0, none⟩) M cap) ∧ (∃ ps, ps.map Prod.fst = ms ∧ Grows W w' (.slice (some ⟨g, 0, none⟩) M cap) ps)) := fun W hW => by
    have h1 := l04Nodes_any (.slice ma M mc) ms W ((HV.out.2.keep hW).up hW.size) HL.out.2
    rw [HM.out] at h1
    exact h1
  clear hR hS hl hl2
  go_enter Try.func8, Try.ntmps8
  go_wp2_with fail
  go_at_call 23
  refine Calls.mono (cD.out _ (by go_grown)) ?_
  rintro e w1 ⟨rfl, hb1⟩
  have P1 : Hid (Box w (.cells #[.slice na N nc, v1] 33) w1) := (Box.first _ _).next hb1
  clear hb1 cD
  have HNO : Hid ((xs, z) = (ms, (-1 : Int)) → ∀ W W' g cap, Below w.heap.size w W → (∃ ps, ps.map Prod.fst = ms ∧ Grows W W' (.slice (some ⟨g, 0, none⟩) M cap) ps) → CopyRes xs z w (.returned (.tuple #[.slice (some ⟨g, 0, none⟩) M cap, .int .i64 (-1)])) W') := by
    rintro hc W W' g cap hW ⟨ps, hps, hg⟩
    cases hc
    refine ⟨_, _, _, rfl, ?_, hW.trans (hg.below.mono hW.size)⟩
    have h1 := hg.own
    rw [hps] at h1
    exact h1.wide hW.size (Nat.le_refl _)
  by_cases hdz : d = 0
  · have HC : Hid ((xs, z) = (ms, (-1 : Int))) := hz.out.symm.trans (copyAns_zero (by rw [hd.out]; exact hdz))
    subst hdz
    go_wp2_with fail
    go_at_call 24
    refine Calls.mono (cN.out _ P1.out.below) ?_
    rintro e w2 ⟨g, cap, rfl, hg⟩
    have HF : Hid (CopyRes xs z w (.returned (.tuple #[.slice (some ⟨g, 0, none⟩) M cap, .int .i64 (-1)])) w2) := HNO.out HC.out _ _ _ _ P1.out.below hg
    clear hg HNO
    go_wp2
    go_ret2
    exact HF.out
  have hd1 : (d == 0) = false := by simpa using hdz
  by_cases hM : 300 < M
  · have HC : Hid ((xs, z) = (ms, (-1 : Int))) := hz.out.symm.trans (copyAns_none (pack_long (by rw [HM.out]; exact hM)))
    have hM1 : (300 : Int) < (M : Int) := by omega
    go_wp2_with fail
    go_at_call 24
    refine Calls.mono (cN.out _ P1.out.below) ?_
    rintro e w2 ⟨g, cap, rfl, hg⟩
    have HF : Hid (CopyRes xs z w (.returned (.tuple #[.slice (some ⟨g, 0, none⟩) M cap, .int .i64 (-1)])) w2) := HNO.out HC.out _ _ _ _ P1.out.below hg
    clear hg HNO
    go_wp2
    go_ret2
    exact HF.out
  have hM1 : ¬ (300 : Int) < (M : Int) := by omega
  have p0 := P1.out.cell 0
  simp at p0
  have hp1 : w.heap.size < w1.heap.size := P1.out.lt
  go_wp2_with fail
  go_region_held3 (fun w' => w'.cell? ⟨w.heap.size, 0, none⟩ = some (.slice na N nc)) (first | exact p0 | exact p2 | go_keep) ((go_at_call 24; refine Calls.mono (cN.out _ P1.out.below.drew) ?_; rintro e w2 ⟨g, cap, rfl, hg⟩; have hgb := (match hg with | ⟨_, _, h⟩ => h.below); have p2 := (hgb.cell (p := ⟨w.heap.size, 0, none⟩) hp1).trans p0))
  obtain ⟨ps, hps, hgr⟩ := hg
  obtain ⟨T, HT⟩ : ∃ T : Nat, Hid (10 = T) := ⟨10, (rfl : 10 = 10)⟩
  have HPL : Hid (ps.length = M) := by show _ = _; have := congrArg List.length hps; simp at this; rw [this, HM.out]
  have HPS : Hid (ps.map Prod.fst = ms) := hps
  have hw2 : w1.heap.size ≤ w2.heap.size := hgb.size
  have HB3 : Hid (Below w.heap.size w (w2.alloc (.cells #[.slice na N nc, .slice (some ⟨g, 0, none⟩) M cap, .bool false] 52))) := by
    have h1 : Below w1.heap.size w1 w2 := (Below.refl _ _).drew.trans hgb
    have h2 : Below w.heap.size w w2 := P1.out.below.trans (h1.mono (by omega))
    exact h2.alloc (by omega) _
  have HPI : Hid (PutIn w2.heap.size w1.heap.size (.cells #[.slice na N nc, .slice (some ⟨g, 0, none⟩) M cap, .bool false] 52) (w2.alloc (.cells #[.slice na N nc, .slice (some ⟨g, 0, none⟩) M cap, .bool false] 52)) (.slice (some ⟨g, 0, none⟩) M cap) ps) := by
    have hb : Below w2.heap.size w2 (w2.alloc (.cells #[.slice na N nc, .slice (some ⟨g, 0, none⟩) M cap, .bool false] 52)) := by go_grown
    refine ⟨heap_alloc_new _ _, hw2, fun hm => ?_, hgr.phys.below hb, hgr.nd⟩
    have := (hgr.phys.lt _ hm).2
    omega
  have cP : Hid (Calls Try.prog 25 #[.pointer (some ⟨w2.heap.size, 0, none⟩), .int .i64 k, .int .i64 1] (w2.alloc (.cells #[.slice na N nc, .slice (some ⟨g, 0, none⟩) M cap, .bool false] 52)) (PackPost ns w2.heap.size w1.heap.size N nc na T k (w2.alloc (.cells #[.slice na N nc, .slice (some ⟨g, 0, none⟩) M cap, .bool false] 52)) (.slice (some ⟨g, 0, none⟩) M cap) ps false)) := by
    have h1 := packPut_any ns w2.heap.size w1.heap.size N nc na HN hNl (fun q hq => Nat.le_trans (Nat.le_trans (le_szNd_kids q) (mem_szRow szNd hq)) HL.out.1) T (by have := HT.out; omega) k (w2.alloc (.cells #[.slice na N nc, .slice (some ⟨g, 0, none⟩) M cap, .bool false] 52)) (some ⟨g, 0, none⟩) cap ps false (by simp; omega) ((HV.out.1.keep HB3.out).up (by omega)) (by rw [HPL.out]; exact HPI.out) (by have := HPL.out; omega)
    rw [HPL.out, show (11 : Int) - (T : Int) = 1 by have := HT.out; omega] at h1
    exact h1
  clear hgr hps hgb p2 p0
  go_wp2_with fail
  go_at_call 25
  refine Calls.mono cP.out ?_
  rintro e w4 ⟨at_, va, vc, ps', bad, rfl, hI4, hT4, hl4, hP4⟩
  have B4 : Hid (Below w.heap.size w w4) := HB3.out.trans ((hT4.below HPI.out).mono (by omega))
  obtain ⟨L, HL4⟩ : ∃ n, Hid (ps'.length = n) := ⟨_, (rfl : ps'.length = ps'.length)⟩
  have g1 := cell_at hI4.at_ 1
  have g2 := cell_at hI4.at_ 2
  simp at g1 g2
  rw [HL4.out] at g1
  have hxr : w2.heap.size < w4.heap.size := heap_in hI4.at_
  have H4 : Hid (PutIn w2.heap.size w1.heap.size (.cells #[.slice na N nc, .slice va ps'.length vc, .bool bad] 52 (0, 0)) w4 (.slice va ps'.length vc) ps' ∧ PackSays ns T k false ps bad ps' at_) := ⟨hI4, hP4⟩
  clear hI4 hT4 hl4 hP4 cP
  have HNN : Hid (bad = true ∨ 300 < ps'.length → pack ns T k ms = none) := fun h => by
    cases hp : pack ns T k ms with
    | none => rfl
    | some r =>
      exfalso
      have h1 := H4.out.2.1 r rfl (by have := HPL.out; omega) (by rw [HPS.out]; exact hp)
      have h2 := pack_pre ns T k ms r hp
      have h3 := congrArg List.length h1.2.1
      simp at h3
      rcases h with h | h
      · rw [h1.1] at h; cases h
      · omega
  cases bad
  rotate_left
  · have HC : Hid ((xs, z) = (ms, (-1 : Int))) := hz.out.symm.trans (copyAns_none (by rw [HT.out]; exact HNN.out (.inl rfl)))
    go_wp2_with fail
    go_at_call 24
    refine Calls.mono (cN.out _ B4.out) ?_
    rintro e w5 ⟨g5, cap5, rfl, hg⟩
    have HF : Hid (CopyRes xs z w (.returned (.tuple #[.slice (some ⟨g5, 0, none⟩) M cap5, .int .i64 (-1)])) w5) := HNO.out HC.out _ _ _ _ B4.out hg
    clear hg HNO
    go_wp2
    go_ret2
    exact HF.out
  by_cases hL : 300 < L
  · have HC : Hid ((xs, z) = (ms, (-1 : Int))) := hz.out.symm.trans (copyAns_none (by rw [HT.out]; exact HNN.out (.inr (by rw [HL4.out]; exact hL))))
    have hL1 : (300 : Int) < (L : Int) := by omega
    go_wp2_with fail
    go_at_call 24
    refine Calls.mono (cN.out _ B4.out) ?_
    rintro e w5 ⟨g5, cap5, rfl, hg⟩
    have HF : Hid (CopyRes xs z w (.returned (.tuple #[.slice (some ⟨g5, 0, none⟩) M cap5, .int .i64 (-1)])) w5) := HNO.out HC.out _ _ _ _ B4.out hg
    clear hg HNO
    go_wp2
    go_ret2
    exact HF.out
  have hL1 : ¬ (300 : Int) < (L : Int) := by omega
  have HC : Hid (xs = ps'.map Prod.fst ∧ z = at_) := by
    cases hp : pack ns T k ms with
    | none =>
      exfalso
      rcases H4.out.2.2 (.inr (.inr (by rw [HPS.out]; exact hp))) with h | h
      · cases h
      · rw [HL4.out] at h; exact hL h
    | some r =>
      have h1 := H4.out.2.1 r rfl (by have := HPL.out; omega) (by rw [HPS.out]; exact hp)
      have h2 := hz.out.symm.trans (copyAns_some (by rw [hd.out]; exact hdz) (by rw [HT.out]; exact hp))
      obtain ⟨r1, r2⟩ := r
      cases h2
      exact ⟨h1.2.1.symm, h1.2.2.symm⟩
  have HF : Hid (CopyRes xs z w (.returned (.tuple #[.slice va L vc, .int .i64 at_])) w4) := by
    refine ⟨va, L, vc, by rw [HC.out.2], ?_, B4.out⟩
    have h1 := H4.out.1.own (B0 := w.heap.size) (by omega)
    rw [HL4.out] at h1
    rw [HC.out.1]
    exact h1
  clear HNO
  go_wp2
  go_ret2
  exact HF.out

end Go.Proofs.Ytehdaliebloglaa

namespace Go.Proofs.Ytehdaliebloglaa
open Go.RowKit

set_option maxRecDepth 100000 in
set_option maxHeartbeats 1600000 in
theorem cloneI_any (B : Nat) (v : Value) (xs : List Int) (w : World) (hB : B ≤ w.heap.size) (hv : RowI w B v xs) (hl : xs.length ≤ 1048576) :
    Calls Try.prog 50 #[v] w fun e w' => ∃ a n cap, e = .returned (.slice a n cap) ∧ OwnsI w' w.heap.size (.slice a n cap) xs ∧ Below w.heap.size w w' := by
  have q43 : ∀ (w : World) (a : Option Addr) (n c n' c' : Nat), (binOp .eql 46 (.slice a n c) (.slice none n' c')).run Try.prog w = .ok (.bool a.isNone) w := fun w a n c n' c' => Lib.run_eql_slice_nil w _ _ a n c n' c' Try.underlying46
  obtain ⟨a, cap, rfl⟩ := hv.len
  obtain ⟨K, HK⟩ : ∃ K, Hid (xs.length = K) := ⟨_, (rfl : xs.length = xs.length)⟩
  have HI : Hid (RowI w B (.slice a K cap) xs) := by rw [← HK.out]; exact hv
  rw [HK.out] at hl ⊢
  clear hv
  cases a with
  | none =>
    have HK0 : Hid (xs = []) := by
      rcases Nat.eq_zero_or_pos xs.length with e | e
      · exact List.eq_nil_of_length_eq_zero e
      · obtain ⟨_, _, e2, _⟩ := HI.out.at 0 e
        cases e2
    have hK0 : K = 0 := by rw [← HK.out, HK0.out]; rfl
    subst hK0
    go_enter Try.func50, Try.ntmps50
    go_wp2
    go_ret
    exact ⟨_, _, _, rfl, by rw [HK0.out]; exact ownsR_nil _ _ _ _ _, Below.refl _ _⟩
  | some ad =>
    have HE0 : Hid (OwnsI (w.alloc (.cells #[] 3)) w.heap.size (.slice (some ⟨w.heap.size, 0, none⟩) 0 0) []) := owns_empty w
    have HS0 : Hid (RowI (w.alloc (.cells #[] 3)) B (.slice (some ad) K cap) xs) := HI.out.keep ((Below.refl _ _).alloc hB _)
    have hks : xs.length ≤ 1048576 := by have := HK.out; omega
    go_enter Try.func50, Try.ntmps50
    go_wp2_with (at_builtin; go_must (refine appendI rfl _ _ 46 rfl w.heap.size Try.underlying46 Try.infoInt HE0.out xs B ad K cap HS0.out rfl rfl (by simp; omega) (by simp) ?_); intro v4 w4 hown4 hg4 hn4; obtain ⟨g4, cap4, hv4⟩ := form_some hown4 (fun h0 => absurd (hn4.mp h0).1 (by simp)); rw [List.nil_append, HK.out] at hv4; subst hv4)
    have HF : Hid (OwnsI w4 w.heap.size (.slice (some ⟨g4, 0, none⟩) K cap4) xs ∧ Below w.heap.size w w4) := by
      refine ⟨hown4, ?_⟩
      have h1 : Below w.heap.size w (w.alloc (.cells #[] 3)) := by go_grown
      exact h1.trans ⟨hg4.os, hg4.tape, hg4.output, hg4.size, fun k hk => hg4.block k (by simp; omega) (by simp [Value.ownBlock]; omega)⟩
    clear hown4 hg4 hn4
    go_ret
    exact ⟨_, _, _, rfl, HF.out⟩

end Go.Proofs.Ytehdaliebloglaa

namespace Go.Proofs.Ytehdaliebloglaa
open Go.RowKit

theorem ndC_onesC (q : Nd) (a : Option Addr) (n c : Nat) : ∀ u ∈ ndC (q, .slice a n c), u.oneCell' = true := by
  intro u hu
  simp [ndC] at hu
  rcases hu with rfl | rfl | rfl | rfl <;> rfl

theorem cell_eq {w w' : World} {b : Nat} (h : w'.heap[b]? = w.heap[b]?) (j : Nat) : w'.cell? ⟨b, j, none⟩ = w.cell? ⟨b, j, none⟩ := by
  unfold World.cell?
  rw [show (⟨b, j, none⟩ : Addr).block = b from rfl, h]

set_option maxRecDepth 100000 in
set_option maxHeartbeats 6400000 in
theorem nodesAnew_any (v : Value) (ns : List Nd) (w : World) (hR : NdR.Row w w.heap.size v ns) (hl : szRow szNd ns ≤ 1048576) :
    Calls Try.prog 29 #[v] w fun e w' => ∃ a n c, e = .returned (.slice a n c) ∧ (∃ ps, ps.map Prod.fst = ns ∧ Grows w w' (.slice a n c) ps) := by
  obtain ⟨a, cap, rfl⟩ := hR.len
  obtain ⟨N, HN⟩ : ∃ N, Hid (ns.length = N) := ⟨_, (rfl : ns.length = ns.length)⟩
  have H : Hid (NdR.Row w w.heap.size (.slice a N cap) ns) := by rw [← HN.out]; exact hR
  have HL : Hid (szRow szNd ns ≤ 1048576) := hl
  have hNl : N ≤ 1048576 := by have := len_szRow szNd ns; have := HN.out; omega
  rw [HN.out]
  clear hR hl
  go_enter Try.func29, Try.ntmps29
  go_wp2
  go_loopw [3, 8] (fun o i wr => ∃ t : Nat, t ≤ N ∧ i = .int .i64 (t : Int) ∧ ∃ (oa : Option Addr) (on oc : Nat), o = .slice oa on oc ∧ Hid (∃ ps, ps.map Prod.fst = ns.take t ∧ Grows w wr o ps)) (fun _ i _ => N - (intOf i).toNat)
  case atStart => exact ⟨0, Nat.zero_le _, rfl, none, 0, 0, rfl, [], by simp, ⟨ownsR_nil _ _ _ _ _, by simp⟩, by simp [fps], Below.refl _ _⟩
  case round =>
    obtain ⟨t, ht, rfl, oa, on, oc, rfl, HJ⟩ := hrel
    obtain ⟨ps, hps, hg⟩ := HJ.out
    by_cases hlt : t < N
    · have ht0 : (0 : Int) ≤ (t : Int) := by omega
      have ht1 : (t : Int) < (N : Int) := by omega
      have htl : t < ns.length := by have := HN.out; omega
      obtain ⟨b, off, ka, kc, rfl, hb, c0, c1, c2, c3, hK⟩ := RowNd.at H.out t htl
      have hq : szNd ns[t] ≤ 1048576 := Nat.le_trans (mem_szRow szNd (List.getElem_mem htl)) HL.out
      obtain ⟨q, hqe⟩ : ∃ q, Hid (ns[t] = q) := ⟨_, (rfl : ns[t] = ns[t])⟩
      have hnx : Hid (ns.take (t + 1) = ns.take t ++ [q]) := by show _ = _; rw [List.take_succ_eq_append_getElem htl, hqe.out]
      rw [hqe.out] at c0 c1 c2 c3 hK hq
      have hbw := hg.below
      have d0 := (hbw.cell (p := ⟨b, off + t * 4, none⟩) hb).trans c0
      have d1 := (hbw.cell (p := ⟨b, off + t * 4 + 1, none⟩) hb).trans c1
      have d2 := (hbw.cell (p := ⟨b, off + t * 4 + 2, none⟩) hb).trans c2
      have d3 := (hbw.cell (p := ⟨b, off + t * 4 + 3, none⟩) hb).trans c3
      have hkl : q.kids.length ≤ 1048576 := Nat.le_trans (le_szNd_kids q) hq
      have hnl : q.name.size ≤ 281474976710656 := by have := le_szNd_name q; omega
      have hsz := hbw.size
      have HG : Hid (Grows w wr (.slice oa on oc) ps ∧ ps.map Prod.fst = ns.take t) := ⟨hg, hps⟩
      obtain ⟨kd, nm, tx, ks⟩ := q
      simp only at d0 d1 d2 d3 hK hkl hnl
      obtain ⟨K, HK⟩ : ∃ K, Hid (ks.length = K) := ⟨_, (rfl : ks.length = ks.length)⟩
      rw [HK.out] at d3 hK
      have HI : Hid (RowI w w.heap.size (.slice ka K kc) ks) := hK
      have hpl : ps.length ≤ 10000000 := by
        have h1 := congrArg List.length HG.out.2
        simp at h1
        omega
      have HBn : Hid (Below wr.heap.size wr (wr.alloc (.cells #[.int .i64 kd, .int .i64 nm, .string tx, .slice ka K kc] 55))) := by show Below _ _ _; go_grown
      have HX1 : Hid (Box wr (.cells #[.int .i64 kd, .int .i64 nm, .string tx, .slice ka K kc] 55) (wr.alloc (.cells #[.int .i64 kd, .int .i64 nm, .string tx, .slice ka K kc] 55))) := Box.first _ _
      have cK : Hid (∀ W, Below w.heap.size w W → Calls Try.prog 50 #[.slice ka K kc] W fun e w' => ∃ a n c, e = .returned (.slice a n c) ∧ OwnsI w' W.heap.size (.slice a n c) ks ∧ Below W.heap.size W w') := fun W hW => cloneI_any w.heap.size _ ks W hW.size (HI.out.keep hW) hkl
      clear c0 c1 c2 c3 hK hq hg hps HJ hbw
      go_wp2_with fail
      generalize hWn : wr.alloc (.cells #[.int .i64 kd, .int .i64 nm, .string tx, .slice ka K kc] 55) = Wn at HX1 HBn ⊢
      have x0 : Wn.cell? ⟨wr.heap.size, 0, none⟩ = some (.int .i64 kd) := HX1.out.cell 0
      have x1 : Wn.cell? ⟨wr.heap.size, 1, none⟩ = some (.int .i64 nm) := HX1.out.cell 1
      have x2 : Wn.cell? ⟨wr.heap.size, 2, none⟩ = some (.string tx) := HX1.out.cell 2
      have x3 : Wn.cell? ⟨wr.heap.size, 3, none⟩ = some (.slice ka K kc) := HX1.out.cell 3
      have hlw : wr.heap.size < Wn.heap.size := HX1.out.lt
      have HBw : Hid (Below w.heap.size w Wn) := HG.out.1.below.trans (HBn.out.mono hsz)
      clear hWn d0 d1 d2 d3
      go_region_held3 (fun w' => w'.cell? ⟨wr.heap.size, 0, none⟩ = some (.int .i64 kd) ∧ w'.cell? ⟨wr.heap.size, 1, none⟩ = some (.int .i64 nm) ∧ w'.cell? ⟨wr.heap.size, 2, none⟩ = some (.string tx) ∧ w'.cell? ⟨wr.heap.size, 3, none⟩ = some (.slice ka K kc)) (first | exact ⟨u0, u1, u2, u3⟩ | exact ⟨s0, s1, s2, s3⟩ | exact ⟨r0, r1, r2, r3⟩ | exact ⟨x0, x1, x2, x3⟩ | go_keep) (first | (go_at_call 49; refine Calls.mono (Clone_any tx _ hnl) ?_; rintro e wC ⟨rfl, hbC⟩; have hbC1 : Below Wn.heap.size Wn wC := (Below.refl _ _).drew.trans hbC; have r0 := (hbC1.cell (p := ⟨wr.heap.size, 0, none⟩) hlw).trans x0; have r1 := (hbC1.cell (p := ⟨wr.heap.size, 1, none⟩) hlw).trans x1; have r2 := (hbC1.cell (p := ⟨wr.heap.size, 2, none⟩) hlw).trans x2; have r3 := (hbC1.cell (p := ⟨wr.heap.size, 3, none⟩) hlw).trans x3; have hlC : wr.heap.size < wC.heap.size := Nat.lt_of_lt_of_le hlw hbC1.size) | (go_at_call 50; refine Calls.mono (cK.out wC (HBw.out.trans (hbC1.mono HBw.out.size))) ?_; rintro e wK ⟨qa, qn, qc, rfl, hqo, hbK⟩; have s0 := (hbK.cell (p := ⟨wr.heap.size, 0, none⟩) hlC).trans r0; have s1 := (hbK.cell (p := ⟨wr.heap.size, 1, none⟩) hlC).trans r1; have s2 := (hbK.cell (p := ⟨wr.heap.size, 2, none⟩) hlC).trans r2; have s3 := (hbK.cell (p := ⟨wr.heap.size, 3, none⟩) hlC).trans r3; have hlK : wr.heap.size < wK.heap.size := Nat.lt_of_lt_of_le hlC hbK.size; have hBK : Below wr.heap.size wr wK := HBn.out.trans ((hbC1.trans (hbK.mono hbC1.size)).mono HBn.out.size)) | (refine step_appendRA (enc := ndC) (k := 4) (fun _ => rfl) rfl _ _ 28 rfl w.heap.size 55 _ 56 Try.underlying28 Try.infoNode rfl (by decide) (OwnsR.below HG.out.1.phys.1 (hBK.alloc hBK.size (.cells #[.int .i64 kd, .int .i64 nm, .string tx, .slice qa qn qc] 55))) (⟨kd, nm, tx, ks⟩, .slice qa qn qc) (ndC_onesC _ _ _ _) wK.heap.size (0, 0) (heap_alloc_new _ _) rfl rfl hpl (by omega) (by have := hBK.size; simp; omega) ?_; intro v5 w5 hown5 hg5 hat5 hv5; obtain ⟨g5, cap5, rfl⟩ := hv5; have h5b := fun (j : Nat) (hj : j < wK.heap.size) (hne : some j ≠ (Value.slice oa on oc).ownBlock) => (hg5.block j (by simp; omega) hne).trans (Below.heap_alloc wK (.cells #[.int .i64 kd, .int .i64 nm, .string tx, .slice qa qn qc] 55) j hj); have hneq : some wr.heap.size ≠ (Value.slice oa on oc).ownBlock := (fun e => by have := (OwnsR.lt HG.out.1.phys.1 wr.heap.size (by simp [fpOf, ← e])).2; omega); have h5c := h5b wr.heap.size hlK hneq; have u0 : w5.cell? ⟨wr.heap.size, 0, none⟩ = some (.int .i64 kd) := (cell_eq h5c 0).trans s0; have u1 : w5.cell? ⟨wr.heap.size, 1, none⟩ = some (.int .i64 nm) := (cell_eq h5c 1).trans s1; have u2 : w5.cell? ⟨wr.heap.size, 2, none⟩ = some (.string tx) := (cell_eq h5c 2).trans s2; have u3 : w5.cell? ⟨wr.heap.size, 3, none⟩ = some (.slice ka K kc) := (cell_eq h5c 3).trans s3))
      have HN5 : Hid (Grows w w5 (.slice (some ⟨g5, 0, none⟩) (ps.length + 1) cap5) (ps ++ [(⟨kd, nm, tx, ks⟩, .slice qa qn qc)])) := by
        refine HG.out.1.more (hBK.alloc hBK.size _) ?_ hown5 hg5 ?_
        · exact owns_base (OwnsR.below hqo (by go_grown)) (by omega)
        · have h0 : Below w.heap.size w (wK.alloc (.cells #[.int .i64 kd, .int .i64 nm, .string tx, .slice qa qn qc] 55)) := HG.out.1.below.trans ((hBK.alloc hBK.size _).mono hsz)
          exact h0.grown hg5 h0.size (fun k hk => (OwnsR.lt HG.out.1.phys.1 k (by simp [fpOf, hk])).1)
      have HJ5 : Hid (∃ ps', ps'.map Prod.fst = ns.take (t + 1) ∧ Grows w w5 (.slice (some ⟨g5, 0, none⟩) (ps.length + 1) cap5) ps') := ⟨_, by rw [List.map_append, HG.out.2, hnx.out]; rfl, HN5.out⟩
      clear hown5 hg5 hat5 HN5 HG u0 u1 u2 u3 s0 s1 s2 s3 r0 r1 r2 r3 x0 x1 x2 x3 hbC hbC1 hbK hBK hqo h5b h5c
      go_wp2
      go_roundw
      case rel => exact ⟨t + 1, by omega, by go_num, _, _, _, rfl, HJ5⟩
      case measure => simp [intOf]; omega
    · have HF : Hid (∃ ps, ps.map Prod.fst = ns ∧ Grows w wr (.slice oa on oc) ps) := ⟨ps, by rw [hps, show t = ns.length by have := HN.out; omega, List.take_length], hg⟩
      clear hps hg HJ
      go_wp2
      go_ret
      exact ⟨oa, on, oc, rfl, HF.out⟩

end Go.Proofs.Ytehdaliebloglaa

namespace Go.Proofs.Ytehdaliebloglaa
open Go.RowKit

set_option maxRecDepth 100000 in
set_option maxHeartbeats 6400000 in
theorem implCopyNodes_any (v0 v1 u : Value) (ns ms : List Nd) (k : Int) (w : World) (hR : NdR.Row w w.heap.size v0 ns) (hS : NdR.Row w w.heap.size u ms) (hl : szRow szNd ns ≤ 1048576) (hl2 : szRow szNd ms ≤ 1048576) (xs : List Nd) (z : Int) (hz : Hid (copyAns ns ms k = (xs, z))) :
    Calls Try.prog 11 #[.agg #[v0, v1], .int .i64 k, u] w (CopyRes xs z w) := by
  obtain ⟨na, nc, rfl⟩ := hR.len
  obtain ⟨ma, mc, rfl⟩ := hS.len
  obtain ⟨N, HN⟩ : ∃ N, Hid (ns.length = N) := ⟨_, (rfl : ns.length = ns.length)⟩
  obtain ⟨M, HM⟩ : ∃ M, Hid (ms.length = M) := ⟨_, (rfl : ms.length = ms.length)⟩
  have HV : Hid (NdR.Row w w.heap.size (.slice na N nc) ns ∧ NdR.Row w w.heap.size (.slice ma M mc) ms) := by rw [← HN.out, ← HM.out]; exact ⟨hR, hS⟩
  have HL : Hid (szRow szNd ns ≤ 1048576 ∧ szRow szNd ms ≤ 1048576) := ⟨hl, hl2⟩
  have hNl : N ≤ 1048576 := by have := len_szRow szNd ns; have := HN.out; omega
  have hMl : M ≤ 1048576 := by have := len_szRow szNd ms; have := HM.out; omega
  rw [HN.out, HM.out]
  obtain ⟨d, hd⟩ : ∃ d, Hid (deepOf ns k = d) := ⟨_, (rfl : deepOf ns k = deepOf ns k)⟩
  have cD : Hid (∀ W, Below w.heap.size w W → Calls Try.prog 28 #[.slice na N nc, .int .i64 k] W fun e w' => e = .returned (.int .i64 d) ∧ Below W.heap.size W w') := fun W hW => by
    rw [← hd.out]
    exact implDeepOf_any _ ns _ W ((HV.out.1.keep hW).up hW.size) HL.out.1
  have cN : Hid (∀ W, Below w.heap.size w W → Calls Try.prog 29 #[.slice ma M mc] W fun e w' => ∃ a n c, e = .returned (.slice a n c) ∧ (∃ ps, ps.map Prod.fst = ms ∧ Grows W w' (.slice a n c) ps)) := fun W hW => by
    exact nodesAnew_any (.slice ma M mc) ms W ((HV.out.2.keep hW).up hW.size) HL.out.2
  clear hR hS hl hl2
  go_enter Try.func11, Try.ntmps11
  go_wp2_with fail
  go_at_call 28
  refine Calls.mono (cD.out _ (by go_grown)) ?_
  rintro e w1 ⟨rfl, hb1⟩
  have P1 : Hid (Box w (.cells #[.slice na N nc, v1] 33) w1) := (Box.first _ _).next hb1
  clear hb1 cD
  have HNO : Hid ((xs, z) = (ms, (-1 : Int)) → ∀ W W' a n c, Below w.heap.size w W → (∃ ps, ps.map Prod.fst = ms ∧ Grows W W' (.slice a n c) ps) → CopyRes xs z w (.returned (.tuple #[.slice a n c, .int .i64 (-1)])) W') := by
    rintro hc W W' a n c hW ⟨ps, hps, hg⟩
    cases hc
    refine ⟨_, _, _, rfl, ?_, hW.trans (hg.below.mono hW.size)⟩
    have h1 := hg.own
    rw [hps] at h1
    exact h1.wide hW.size (Nat.le_refl _)
  by_cases hdz : d = 0
  · have HC : Hid ((xs, z) = (ms, (-1 : Int))) := hz.out.symm.trans (copyAns_zero (by rw [hd.out]; exact hdz))
    subst hdz
    go_wp2_with fail
    go_at_call 29
    refine Calls.mono (cN.out _ P1.out.below) ?_
    rintro e w2 ⟨a, n, c, rfl, hg⟩
    have HF : Hid (CopyRes xs z w (.returned (.tuple #[.slice a n c, .int .i64 (-1)])) w2) := HNO.out HC.out _ _ _ _ _ P1.out.below hg
    clear hg HNO
    go_wp2
    go_ret2
    exact HF.out
  have hd1 : (d == 0) = false := by simpa using hdz
  have p0 := P1.out.cell 0
  simp at p0
  have hp1 : w.heap.size < w1.heap.size := P1.out.lt
  go_wp2_with fail
  have hA : Below w.heap.size w w1.drew := P1.out.below.drew
  have hB : Below w.heap.size w (w1.alloc (.cells #[.slice none 0 0, .slice none 0 0] 58)).drew := (P1.out.below.alloc (Nat.le_of_lt hp1) _).drew
  have hq1 : w1.heap.size < (w1.alloc (.cells #[.slice none 0 0, .slice none 0 0] 58)).drew.heap.size := by show w1.heap.size < (w1.alloc (.cells #[.slice none 0 0, .slice none 0 0] 58)).heap.size; simp
  have HA : Hid (∀ w2 v ps, Grows w1.drew w2 v ps → w2.cell? ⟨w.heap.size, 0, none⟩ = some (.slice na N nc) ∧ w.heap.size < w2.heap.size ∧ ¬ w.heap.size = w2.heap.size) := fun w2 v ps h => ⟨(h.below.cell (p := ⟨w.heap.size, 0, none⟩) hp1).trans p0, Nat.lt_of_lt_of_le hp1 h.below.size, Nat.ne_of_lt (Nat.lt_of_lt_of_le hp1 h.below.size)⟩
  have HB : Hid (∀ w2 v ps, Grows (w1.alloc (.cells #[.slice none 0 0, .slice none 0 0] 58)).drew w2 v ps → w2.cell? ⟨w.heap.size, 0, none⟩ = some (.slice na N nc) ∧ w2.cell? ⟨w1.heap.size, 0, none⟩ = some (.slice none 0 0) ∧ w2.cell? ⟨w1.heap.size, 1, none⟩ = some (.slice none 0 0) ∧ w2.frozen? ⟨w1.heap.size, 0, none⟩ = false ∧ w2.frozen? ⟨w1.heap.size, 1, none⟩ = false) := fun w2 v ps h => by
    have hX2 : w2.heap[w1.heap.size]? = some (.cells #[.slice none 0 0, .slice none 0 0] 58) := (h.below.block w1.heap.size hq1).trans (heap_alloc_new w1 (.cells #[.slice none 0 0, .slice none 0 0] 58))
    refine ⟨(h.below.cell (p := ⟨w.heap.size, 0, none⟩) (Nat.lt_trans hp1 hq1)).trans ((World.cell?_alloc_past (.cells #[.slice none 0 0, .slice none 0 0] 58) w.heap.size 0 hp1).trans p0), cell_at hX2 0, cell_at hX2 1, free_at hX2 0, free_at hX2 1⟩
  have hn1 : ¬ w.heap.size = w1.heap.size := by omega
  have hn2 : ¬ w1.heap.size = w.heap.size := by omega
  go_region_held3 (fun w' => w'.cell? ⟨w.heap.size, 0, none⟩ = some (.slice na N nc)) (first | exact p2 | exact p0 | go_keep | (rw [cell_eq (kept_set hn1), cell_eq (kept_set hn1)]; exact p2)) ((go_at_call 29; refine Calls.mono (cN.out _ ?_) ?_; (first | exact hA | exact hB); rintro e w2 ⟨a, n, c, rfl, ps, hps, hg⟩; (first | (have hh := HA.out _ _ _ hg; obtain ⟨p2, hl2, hl3⟩ := hh) | (have hh := HB.out _ _ _ hg; obtain ⟨p2, z0, z1, fz0, fz1⟩ := hh))))
  have HPI : Hid (PutIn w2.heap.size w1.heap.size (.cells #[.slice na N nc, .slice a n c] 58) (w2.alloc (.cells #[.slice na N nc, .slice a n c] 58)) (.slice a n c) ps) := by
    have hb : Below w2.heap.size w2 (w2.alloc (.cells #[.slice na N nc, .slice a n c] 58)) := by go_grown
    refine ⟨heap_alloc_new _ _, hg.below.size, fun hm => ?_, hg.phys.below hb, hg.nd⟩
    have := (hg.phys.lt _ hm).2
    omega
  have HB3 : Hid (Below w.heap.size w (w2.alloc (.cells #[.slice na N nc, .slice a n c] 58))) := by
    have h2 : Below w.heap.size w w2 := hA.trans (hg.below.mono hA.size)
    exact h2.alloc h2.size _
  have HPS : Hid (ps.map Prod.fst = ms) := hps
  clear hg hps hl2 hl3 p2
  generalize w2.alloc (.cells #[.slice na N nc, .slice a n c] 58) = W3 at HPI HB3 ⊢
  generalize w2.heap.size = x at HPI ⊢
  rotate_left
  have HPI : Hid (PutIn w1.heap.size w1.heap.size (.cells #[.slice na N nc, .slice a n c] 58) ((w2.setCell ⟨w1.heap.size, 0, none⟩ (.slice na N nc)).setCell ⟨w1.heap.size, 1, none⟩ (.slice a n c)) (.slice a n c) ps) := by
    have hX2 : w2.heap[w1.heap.size]? = some (.cells #[.slice none 0 0, .slice none 0 0] 58) := (hg.below.block w1.heap.size hq1).trans (heap_alloc_new w1 (.cells #[.slice none 0 0, .slice none 0 0] 58))
    have hX3 := Lib.heap_setCell_same (i := 0) hX2 (.slice na N nc)
    have hX4 := Lib.heap_setCell_same (i := 1) hX3 (.slice a n c)
    have hlo : ∀ g ∈ fps (NdR.all (.slice a n c) ps), w1.heap.size + 1 ≤ g := fun g hm => by
      have h1 : (w1.alloc (.cells #[.slice none 0 0, .slice none 0 0] 58)).drew.heap.size ≤ g := (hg.phys.lt g hm).1
      have h2 : (w1.alloc (.cells #[.slice none 0 0, .slice none 0 0] 58)).drew.heap.size = w1.heap.size + 1 := by show (w1.alloc (.cells #[.slice none 0 0, .slice none 0 0] 58)).heap.size = _; simp
      omega
    refine ⟨by simpa using hX4, Nat.le_refl _, fun hm => by have := hlo _ hm; omega, ?_, hg.nd⟩
    refine (hg.phys.same (fun g hm => ?_)).base (fun g hm => by have := hlo g hm; omega)
    have := hlo g hm
    rw [kept_set (by omega), kept_set (by omega)]
  have HB3 : Hid (Below w.heap.size w ((w2.setCell ⟨w1.heap.size, 0, none⟩ (.slice na N nc)).setCell ⟨w1.heap.size, 1, none⟩ (.slice a n c))) := by
    have h2 : Below w.heap.size w w2 := hB.trans (hg.below.mono hB.size)
    exact (h2.setCell (p := ⟨w1.heap.size, 0, none⟩) (Nat.le_of_lt hp1) _).setCell (p := ⟨w1.heap.size, 1, none⟩) (Nat.le_of_lt hp1) _
  have HPS : Hid (ps.map Prod.fst = ms) := hps
  clear hg hps z0 z1 fz0 fz1 p2
  generalize (w2.setCell ⟨w1.heap.size, 0, none⟩ (.slice na N nc)).setCell ⟨w1.heap.size, 1, none⟩ (.slice a n c) = W3 at HPI HB3 ⊢
  generalize hx0 : w1.heap.size = x at ⊢
  rw [hx0] at hn1 hn2 hp1
  replace HPI : Hid (PutIn x w1.heap.size (.cells #[.slice na N nc, .slice a n c] 58) W3 (.slice a n c) ps) := by rw [← hx0]; exact HPI
  rotate_left
  all_goals
    obtain ⟨T, HT⟩ : ∃ T : Nat, Hid (10 = T) := ⟨10, (rfl : 10 = 10)⟩
    have hnp : n = ps.length := by
      rcases OwnsR.form HPI.out.phys.1 with ⟨h0, h1⟩ | ⟨g0, c0, h0, _⟩
      · injection h0 with _ h2 _
        rw [h2, h1]; rfl
      · injection h0
    have hPL : ps.length = M := by have := congrArg List.length HPS.out; simp at this; rw [this, HM.out]
    have HPL : Hid (ps.length = M ∧ n = M) := ⟨hPL, by omega⟩
    have hw13 : w.heap.size ≤ w1.heap.size := P1.out.below.size
    have cP : Hid (Calls Try.prog 30 #[.pointer (some ⟨x, 0, none⟩), .int .i64 k, .int .i64 10] W3 (CopyPost ns x w1.heap.size N nc na T k W3 (.slice a n c) ps)) := by
      have h1 := copyPut_any ns x w1.heap.size N nc na HN (fun q hq => ⟨Nat.le_trans (Nat.le_trans (le_szNd_kids q) (mem_szRow szNd hq)) HL.out.1, Nat.le_trans (Nat.le_trans (le_szNd_name q) (mem_szRow szNd hq)) HL.out.1⟩) T (by have := HT.out; omega) k W3 a c ps (by have := HPI.out.lb; have := heap_in HPI.out.at_; omega) ((HV.out.1.keep HB3.out).up hw13) (by rw [← hnp]; exact HPI.out) (by omega)
      rw [← hnp, show (T : Int) = 10 by have := HT.out; omega] at h1
      exact h1
    clear p0 hA hB hq1 hnp hPL HA HB
    go_wp2_with fail
    go_at_call 30
    refine Calls.mono cP.out ?_
    rintro e w4 ⟨va, vc, ps', hI4, hT4, hl4, hP4⟩
    have B4 : Hid (Below w.heap.size w w4) := HB3.out.trans ((hT4.below HPI.out).mono hw13)
    rcases hP4 with ⟨⟨r1, r2⟩, hr, hrp, rfl⟩ | ⟨hno, rfl⟩
    · obtain ⟨L, HL4⟩ : ∃ n, Hid (ps'.length = n) := ⟨_, (rfl : ps'.length = ps'.length)⟩
      have g1 := cell_at hI4.at_ 1
      simp at g1
      rw [HL4.out] at g1
      have HF : Hid (CopyRes xs z w (.returned (.tuple #[.slice va L vc, .int .i64 r2])) w4) := by
        have h2 := hz.out.symm.trans (copyAns_some (by rw [hd.out]; exact hdz) (by rw [HT.out, ← HPS.out]; exact hr))
        cases h2
        refine ⟨va, L, vc, rfl, ?_, B4.out⟩
        have h1 := hI4.own (B0 := w.heap.size) hw13
        rw [HL4.out, hrp] at h1
        exact h1
      clear hI4 hT4 hl4 hr hrp cP HNO
      simp only
      go_wp2
      go_ret2
      exact HF.out
    · have HC : Hid ((xs, z) = (ms, (-1 : Int))) := hz.out.symm.trans (copyAns_none (by rw [HT.out, ← HPS.out]; exact hno))
      clear hI4 hT4 hl4 hno cP
      go_wp2_with fail
      go_at_call 29
      refine Calls.mono (cN.out _ B4.out) ?_
      rintro e w5 ⟨a5, n5, c5, rfl, hg⟩
      have HF : Hid (CopyRes xs z w (.returned (.tuple #[.slice a5 n5 c5, .int .i64 (-1)])) w5) := HNO.out HC.out _ _ _ _ _ B4.out hg
      clear hg HNO
      go_wp2
      go_ret2
      exact HF.out

end Go.Proofs.Ytehdaliebloglaa

namespace Go.Proofs.Ytehdaliebloglaa
open Go.RowKit

/-- How much the answer holds. -/
structure CopyFits (xs : List Nd) : Prop where
  len : xs.length ≤ 1048576
  each : ∀ q ∈ xs, szNd q ≤ 1048576
  mark : 1 + markN lnNd xs ≤ 1000000000
theorem markN_each {qs : List Nd} {c : Nat} (h : ∀ q ∈ qs, lnNd q ≤ c) : markN lnNd qs ≤ qs.length * c := by
  induction qs with
  | nil => simp [markN]
  | cons q qs ih =>
    have h1 := h q (List.mem_cons_self ..)
    have h2 := ih (fun x hx => h x (List.mem_cons_of_mem _ hx))
    simp only [markN, List.length_cons, Nat.add_mul, Nat.one_mul]
    omega
theorem copyAns_fits {ns ms xs : List Nd} {k z : Int} (hn : szRow szNd ns ≤ 1048576) (hm : szRow szNd ms ≤ 1048576) (h : copyAns ns ms k = (xs, z)) : CopyFits xs := by
  have hms : CopyFits ms := ⟨Nat.le_trans (len_szRow szNd ms) hm, fun q hq => Nat.le_trans (mem_szRow szNd hq) hm, by have := lnNd_sz ms; omega⟩
  unfold copyAns at h
  split at h
  · cases h; exact hms
  · cases hp : pack ns 10 k ms with
    | none => rw [hp] at h; cases h; exact hms
    | some r =>
      rw [hp] at h
      have h1 : r = (xs, z) := h
      subst h1
      obtain ⟨qs, e, hq⟩ := pack_from ns 10 k ms _ hp
      have hl := (pack_pre ns 10 k ms _ hp).2.1
      simp only at e hl
      have hqs : qs.length ≤ 300 := by rw [e, List.length_append] at hl; omega
      have hsz : ∀ q ∈ qs, szNd q ≤ 1048576 := fun q hq' => by
        obtain ⟨n, hn', h3, h4⟩ := hq q hq'
        have := Nat.le_trans (mem_szRow szNd hn') hn
        unfold szNd at this ⊢
        rw [h3, h4]
        omega
      have hln : ∀ q ∈ qs, lnNd q ≤ 1048580 := fun q hq' => by
        have := hsz q hq'
        unfold szNd at this
        unfold lnNd
        rw [lnI_len]
        omega
      refine ⟨by omega, fun q hq' => ?_, ?_⟩
      · rw [e] at hq'
        rcases List.mem_append.mp hq' with h5 | h5
        · exact hms.each q h5
        · exact hsz q h5
      · rw [e, markN_append]
        have h6 := markN_each hln
        have h7 := lnNd_sz ms
        have h8 : qs.length * 1048580 ≤ 300 * 1048580 := Nat.mul_le_mul_right _ hqs
        omega

set_option maxRecDepth 100000 in
set_option maxHeartbeats 6400000 in
theorem lawCopy (a0 a1 : Value) (p : Pg) (k : Int) (u : Value) (ms : List Nd) (w : World) (hp : RowPg w w.heap.size a0 a1 p ∧ okPg p) (hu : NdR.Row w w.heap.size u ms ∧ okRow okNd ms) :
    Calls Try.prog 3 #[.agg #[a0, a1], .int .i64 k, u] w fun e w' => e = .returned (.bool true) ∧ Below w.heap.size w w' := by
  obtain ⟨ua, uc, rfl⟩ := hu.1.len
  obtain ⟨M, HM⟩ : ∃ M, Hid (ms.length = M) := ⟨_, (rfl : ms.length = ms.length)⟩
  rw [HM.out] at hu ⊢
  have cZ : Hid (∀ W, Below w.heap.size w W → Calls Try.prog 6 #[.agg #[a0, a1], .int .i64 1048576] W fun e w' => (∃ r : Int, e = .returned (.int .i64 r) ∧ (r = -1 ∨ (0 ≤ r ∧ r + (szPg p : Int) = 1048576))) ∧ Below W.heap.size W w') := fun W hW =>
    szProgram_sum w.heap.size p a0 a1 1048576 W hW.size (hp.1.keep hW) hp.2 (by omega) (by omega)
  have cY : Hid (∀ W (left : Int), 0 ≤ left → left ≤ 1048576 → Below w.heap.size w W → Calls Try.prog 7 #[.slice ua M uc, .int .i64 left] W fun e w' => (∃ r : Int, e = .returned (.int .i64 r) ∧ (r = -1 ∨ (0 ≤ r ∧ r + (szRow szNd ms : Int) = left))) ∧ Below W.heap.size W w') := fun W left h0 h1 hW =>
    szNodeS_sum w.heap.size _ ms left W hW.size (hu.1.keep hW) hu.2 h0 h1
  have HP : Hid (RowPg w w.heap.size a0 a1 p ∧ NdR.Row w w.heap.size (.slice ua M uc) ms) := ⟨hp.1, hu.1⟩
  clear hp hu
  go_enter Try.func3, Try.ntmps3
  go_wp2_with fail
  go_at_call 6
  refine Calls.mono (cZ.out _ (by go_grown)) ?_
  rintro e w1 ⟨⟨r, rfl, hr⟩, hb⟩
  have B1 : Hid (Box w (.cells #[a0, a1] 25) w1) := (Box.first _ _).next hb
  clear cZ hb
  rcases hr with rfl | ⟨hr0, hr1⟩
  · go_wp2
    go_ret
    exact ⟨rfl, B1.out.below⟩
  have hrn : ¬ r < 0 := by omega
  go_wp2_with fail
  go_at_call 7
  refine Calls.mono (cY.out _ r hr0 (by omega) B1.out.below) ?_
  rintro e w2 ⟨⟨s, rfl, hs⟩, hb⟩
  have B2 : Hid (Box w (.cells #[a0, a1] 25) w2) := B1.out.next hb
  clear cY hb B1
  rcases hs with rfl | ⟨hs0, hs1⟩
  · go_wp2
    go_ret
    exact ⟨rfl, B2.out.below⟩
  have hsn : ¬ s < 0 := by omega
  have hl : szPg p ≤ 1048576 := by omega
  have hl2 : szRow szNd ms ≤ 1048576 := by omega
  have HL : Hid ((szPg p ≤ 1048576 ∧ szRow szNd p.nodes ≤ 1048576) ∧ szRow szNd ms ≤ 1048576) := ⟨⟨hl, Nat.le_trans (le_szPg_nodes p) hl⟩, hl2⟩
  obtain ⟨N0, H0⟩ : ∃ K, Hid (p.nodes.length = K) := ⟨_, (rfl : p.nodes.length = p.nodes.length)⟩
  obtain ⟨N1, H1⟩ : ∃ K, Hid (p.fns.length = K) := ⟨_, (rfl : p.fns.length = p.fns.length)⟩
  have cT : Hid (∀ W, Below w.heap.size w W → Calls Try.prog 9 #[.agg #[a0, a1]] W fun e w' => ∃ g c g' c', e = .returned (.agg #[.slice (some ⟨g, 0, none⟩) N0 c, .slice (some ⟨g', 0, none⟩) N1 c']) ∧ OwnPg w' W.heap.size w'.heap.size (.slice (some ⟨g, 0, none⟩) N0 c) (.slice (some ⟨g', 0, none⟩) N1 c') p ∧ Below W.heap.size W w') := fun W hW => by
    rw [← H0.out, ← H1.out]
    exact toProgram_any w.heap.size p a0 a1 W hW.size (HP.out.1.keep hW) hl
  have cU : Hid (∀ W, Below w.heap.size w W → Calls Try.prog 10 #[.slice ua M uc] W fun e w' => ∃ g cap, e = .returned (.slice (some ⟨g, 0, none⟩) M cap) ∧ NdR.Own w' W.heap.size w'.heap.size (.slice (some ⟨g, 0, none⟩) M cap) ms ∧ Below W.heap.size W w') := fun W hW => by
    have h1 := toNodeS_any w.heap.size _ ms W hW.size (HP.out.2.keep hW) HL.out.2
    rw [HM.out] at h1
    exact h1
  obtain ⟨⟨xs, z⟩, hz⟩ : ∃ r, Hid (copyAns p.nodes ms k = r) := ⟨_, (rfl : copyAns p.nodes ms k = copyAns p.nodes ms k)⟩
  have HX : Hid (CopyFits xs) := copyAns_fits HL.out.1.2 HL.out.2 hz.out
  have cS : Hid (∀ W v0 v1 v2, RowPg W W.heap.size v0 v1 p → NdR.Row W W.heap.size v2 ms → Calls Try.prog 8 #[.agg #[v0, v1], .int .i64 k, v2] W (CopyRes xs z W)) := fun W v0 v1 v2 h h2 => specCopyNodes_any v0 v1 v2 p.nodes ms k W h.1 h2 HL.out.1.2 HL.out.2 xs z hz
  have cI : Hid (∀ W v0 v1 v2, RowPg W W.heap.size v0 v1 p → NdR.Row W W.heap.size v2 ms → Calls Try.prog 11 #[.agg #[v0, v1], .int .i64 k, v2] W (CopyRes xs z W)) := fun W v0 v1 v2 h h2 => implCopyNodes_any v0 v1 v2 p.nodes ms k W h.1 h2 HL.out.1.2 HL.out.2 xs z hz
  have cE : Hid (∀ W v v', NdR.Row W W.heap.size v xs → NdR.Row W W.heap.size v' xs → Calls Try.prog 12 #[v, v'] W fun e w' => e = .returned (.bool true) ∧ Below W.heap.size W w') := fun W v v' h h2 => eqNodeS_each W.heap.size v v' xs W (Nat.le_refl _) h h2 HX.out.len HX.out.each
  clear hl hl2 hr0 hr1 hs0 hs1
  have x0 : w2.cell? ⟨w.heap.size, 0, none⟩ = some a0 := B2.out.cell 0
  have x1 : w2.cell? ⟨w.heap.size, 1, none⟩ = some a1 := B2.out.cell 1
  go_wp2_with fail
  go_at_call 9
  refine Calls.mono (cT.out _ B2.out.below) ?_
  rintro e wA ⟨gA, cA, gA', cA', rfl, hoA, hbA⟩
  have DA : Hid (Box w (.cells #[a0, a1] 25) wA) := B2.out.next hbA
  have RA : Hid (RowPg wA wA.heap.size (.slice (some ⟨gA, 0, none⟩) N0 cA) (.slice (some ⟨gA', 0, none⟩) N1 cA') p) := hoA.row
  clear hoA hbA
  go_wp2_with fail
  go_at_call 10
  refine Calls.mono (cU.out _ DA.out.below) ?_
  rintro e wB ⟨gB, cB, rfl, hoB, hbB⟩
  have DB : Hid (Box w (.cells #[a0, a1] 25) wB) := DA.out.next hbB
  have RB : Hid (RowPg wB wB.heap.size (.slice (some ⟨gA, 0, none⟩) N0 cA) (.slice (some ⟨gA', 0, none⟩) N1 cA') p ∧ NdR.Row wB wB.heap.size (.slice (some ⟨gB, 0, none⟩) M cB) ms) := ⟨(RA.out.keep hbB).up hbB.size, hoB.row⟩
  clear hoB hbB RA DA
  go_wp2_with fail
  go_at_call 8
  refine Calls.mono (cS.out _ _ _ _ RB.out.1 RB.out.2) ?_
  rintro e wC ⟨sa, sn, sc, rfl, hoC, hbC⟩
  have DC := DB.out.next hbC
  have B3 : Hid (Box w (.cells #[a0, a1] 25) wC) := DC
  have S3 : Hid (NdR.Own wC wB.heap.size wC.heap.size (.slice sa sn sc) xs) := hoC
  have hz3 : w.heap.size < wB.heap.size ∧ wB.heap.size ≤ wC.heap.size := ⟨DB.out.lt, hbC.size⟩
  clear DB DC hbC hoC RB B2 x0 x1 cS
  have x0 := B3.out.cell 0
  have x1 := B3.out.cell 1
  simp at x0 x1
  go_wp2_with fail
  go_at_call 9
  refine Calls.mono (cT.out _ B3.out.below) ?_
  rintro e w4 ⟨g2, c2, g2', c2', rfl, ho, hb⟩
  have B4 : Hid (Box w (.cells #[a0, a1] 25) w4) := B3.out.next hb
  have S4 : Hid (NdR.Own w4 wB.heap.size wC.heap.size (.slice sa sn sc) xs) := S3.out.below hb (Nat.le_refl _)
  have P4 : Hid (OwnPg w4 wC.heap.size w4.heap.size (.slice (some ⟨g2, 0, none⟩) N0 c2) (.slice (some ⟨g2', 0, none⟩) N1 c2') p) := ho
  have hz4 : wC.heap.size ≤ w4.heap.size := hb.size
  clear hb ho B3 S3 x0 x1
  go_wp2_with fail
  go_at_call 10
  refine Calls.mono (cU.out _ (B4.out.alloc _).below) ?_
  rintro e w5 ⟨g3, c3, rfl, ho, hb⟩
  have X5 : Hid (Box w4 (.cells #[.slice (some ⟨g2, 0, none⟩) N0 c2, .slice (some ⟨g2', 0, none⟩) N1 c2'] 33) w5) := (Box.first _ _).next hb
  have B5 : Hid (Box w (.cells #[a0, a1] 25) w5) := B4.out.under X5.out
  have S5 : Hid (NdR.Own w5 wB.heap.size wC.heap.size (.slice sa sn sc) xs) := S4.out.below X5.out.below hz4
  have P5 : Hid (OwnPg w5 wC.heap.size w4.heap.size (.slice (some ⟨g2, 0, none⟩) N0 c2) (.slice (some ⟨g2', 0, none⟩) N1 c2') p) := P4.out.same (fun b _ h2 => X5.out.below.block b h2)
  have T5 : Hid (NdR.Own w5 (w4.heap.size + 1) w5.heap.size (.slice (some ⟨g3, 0, none⟩) M c3) ms) := ho.wide (by simp) (Nat.le_refl _)
  have hz5 : w4.heap.size < w5.heap.size := X5.out.lt
  clear hb ho B4 S4 P4
  have z0 : w5.cell? ⟨w4.heap.size, 0, none⟩ = some (.slice (some ⟨g2, 0, none⟩) N0 c2) := X5.out.cell 0
  have z1 : w5.cell? ⟨w4.heap.size, 1, none⟩ = some (.slice (some ⟨g2', 0, none⟩) N1 c2') := X5.out.cell 1
  go_wp2_with fail
  go_at_call 11
  refine Calls.mono (cI.out _ _ _ _ (P5.out.row.up (Nat.le_of_lt hz5)) T5.out.row) ?_
  rintro e w6 ⟨ga, gn, gc, rfl, ho, hb⟩
  have X6 : Hid (Box w4 (.cells #[.slice (some ⟨g2, 0, none⟩) N0 c2, .slice (some ⟨g2', 0, none⟩) N1 c2'] 33) w6) := X5.out.next hb
  have B6 : Hid (Box w (.cells #[a0, a1] 25) w6) := B5.out.next hb
  have S6 : Hid (NdR.Own w6 wB.heap.size wC.heap.size (.slice sa sn sc) xs) := S5.out.below hb (by omega)
  have P6 : Hid (OwnPg w6 wC.heap.size w4.heap.size (.slice (some ⟨g2, 0, none⟩) N0 c2) (.slice (some ⟨g2', 0, none⟩) N1 c2') p) := P5.out.same (fun b _ h2 => hb.block b (by omega))
  have T6 : Hid (NdR.Own w6 (w4.heap.size + 1) w5.heap.size (.slice (some ⟨g3, 0, none⟩) M c3) ms) := T5.out.below hb (Nat.le_refl _)
  have G6 : Hid (NdR.Own w6 w5.heap.size w6.heap.size (.slice ga gn gc) xs) := ho
  have hz6 : w5.heap.size ≤ w6.heap.size := hb.size
  clear hb ho B5 X5 S5 P5 T5 z0 z1
  go_wp2_with fail
  go_at_call 12
  refine Calls.mono (cE.out _ _ _ G6.out.row (S6.out.row.up (by omega))) ?_
  rintro e w7 ⟨rfl, hb⟩
  have X7 : Hid (Box w4 (.cells #[.slice (some ⟨g2, 0, none⟩) N0 c2, .slice (some ⟨g2', 0, none⟩) N1 c2'] 33) w7) := X6.out.next hb
  have B7 : Hid (Box w (.cells #[a0, a1] 25) w7) := B6.out.next hb
  have S7 : Hid (NdR.Own w7 wB.heap.size wC.heap.size (.slice sa sn sc) xs) := S6.out.below hb (by omega)
  have P7 : Hid (OwnPg w7 wC.heap.size w4.heap.size (.slice (some ⟨g2, 0, none⟩) N0 c2) (.slice (some ⟨g2', 0, none⟩) N1 c2') p) := P6.out.same (fun b _ h2 => hb.block b (by omega))
  have T7 : Hid (NdR.Own w7 (w4.heap.size + 1) w5.heap.size (.slice (some ⟨g3, 0, none⟩) M c3) ms) := T6.out.below hb hz6
  have G7 : Hid (NdR.Own w7 w5.heap.size w6.heap.size (.slice ga gn gc) xs) := G6.out.below hb (Nat.le_refl _)
  have hz7 : w6.heap.size ≤ w7.heap.size := hb.size
  clear hb B6 X6 S6 P6 T6 G6
  have z0 : w7.cell? ⟨w4.heap.size, 0, none⟩ = some (.slice (some ⟨g2, 0, none⟩) N0 c2) := X7.out.cell 0
  have z1 : w7.cell? ⟨w4.heap.size, 1, none⟩ = some (.slice (some ⟨g2', 0, none⟩) N1 c2') := X7.out.cell 1
  have x0 : w7.cell? ⟨w.heap.size, 0, none⟩ = some a0 := B7.out.cell 0
  have x1 : w7.cell? ⟨w.heap.size, 1, none⟩ = some a1 := B7.out.cell 1
  have hp7 : w4.heap.size ≤ w7.heap.size := by omega
  go_wp2_with fail
  go_region_held3 (fun w' => (w'.cell? ⟨w4.heap.size, 0, none⟩ = some (.slice (some ⟨g2, 0, none⟩) N0 c2) ∧ w'.cell? ⟨w4.heap.size, 1, none⟩ = some (.slice (some ⟨g2', 0, none⟩) N1 c2')) ∧ w'.cell? ⟨w.heap.size, 0, none⟩ = some a0 ∧ w'.cell? ⟨w.heap.size, 1, none⟩ = some a1) (first | exact ⟨⟨XE.cell 0, XE.cell 1⟩, DE.cell 0, DE.cell 1⟩ | exact ⟨⟨XD.cell 0, XD.cell 1⟩, DD.cell 0, DD.cell 1⟩ | exact ⟨⟨X7.out.drew.cell 0, X7.out.drew.cell 1⟩, B7.out.drew.cell 0, B7.out.drew.cell 1⟩) (first | (go_at_call 9; refine Calls.mono (cT.out _ B7.out.drew.below) ?_; rintro e wD ⟨gD, cD, gD', cD', rfl, hoD, hbD⟩; have DD := B7.out.drew.next hbD; have XD := X7.out.drew.next hbD) | (go_at_call 13; refine Calls.mono (eqProgram_same wD.heap.size p _ _ _ _ wD (Nat.le_refl _) ((P7.out.row.keep ((Below.refl _ _).drew.trans (hbD.mono hp7))).up (Nat.le_trans hp7 hbD.size)) hoD.row HL.out.1.1) ?_; rintro e wE ⟨rfl, hbE⟩; have DE := DD.next hbE; have XE := XD.next hbE))
  have HB8 : Hid (Below w7.heap.size w7 wE) := (Below.refl _ _).drew.trans (hbD.trans (hbE.mono hbD.size))
  clear DD DE XD XE hbD hbE hoD z0 z1 x0 x1
  have X8 : Hid (Box w4 (.cells #[.slice (some ⟨g2, 0, none⟩) N0 c2, .slice (some ⟨g2', 0, none⟩) N1 c2'] 33) wE) := X7.out.next HB8.out
  have B8 : Hid (Box w (.cells #[a0, a1] 25) wE) := B7.out.next HB8.out
  have S8 : Hid (NdR.Own wE wB.heap.size wC.heap.size (.slice sa sn sc) xs) := S7.out.below HB8.out (by omega)
  have P8 : Hid (OwnPg wE wC.heap.size w4.heap.size (.slice (some ⟨g2, 0, none⟩) N0 c2) (.slice (some ⟨g2', 0, none⟩) N1 c2') p) := P7.out.same (fun b _ h2 => HB8.out.block b (by omega))
  have T8 : Hid (NdR.Own wE (w4.heap.size + 1) w5.heap.size (.slice (some ⟨g3, 0, none⟩) M c3) ms) := T7.out.below HB8.out (by omega)
  have G8 : Hid (NdR.Own wE w5.heap.size w6.heap.size (.slice ga gn gc) xs) := G7.out.below HB8.out hz7
  have hz8 : w6.heap.size ≤ wE.heap.size := Nat.le_trans hz7 HB8.out.size
  clear B7 X7 S7 P7 T7 G7 HB8
  go_wp2_with fail
  go_at_call 10
  refine Calls.mono (cU.out _ B8.out.below) ?_
  rintro e w9 ⟨g4, c4, rfl, ho, hb⟩
  have hT9 : NdR.Row w9 w9.heap.size (.slice (some ⟨g3, 0, none⟩) M c3) ms := (T8.out.below hb (by omega)).row.up (by have := hb.size; omega)
  have hb9 := hb
  go_wp2_with fail
  go_at_call 12
  refine Calls.mono (eqNodeS_same w9.heap.size _ _ ms w9 (Nat.le_refl _) hT9 ho.row HL.out.2) ?_
  rintro e w10 ⟨rfl, hb2⟩
  have HB9 : Hid (Below wE.heap.size wE w10) := hb9.trans (hb2.mono hb9.size)
  clear hb hb2 hb9 hT9 ho
  have X9 : Hid (Box w4 (.cells #[.slice (some ⟨g2, 0, none⟩) N0 c2, .slice (some ⟨g2', 0, none⟩) N1 c2'] 33) w10) := X8.out.next HB9.out
  have B9 : Hid (Box w (.cells #[a0, a1] 25) w10) := B8.out.next HB9.out
  have S9 : Hid (NdR.Own w10 wB.heap.size wC.heap.size (.slice sa sn sc) xs) := S8.out.below HB9.out (by omega)
  have P9 : Hid (OwnPg w10 wC.heap.size w4.heap.size (.slice (some ⟨g2, 0, none⟩) N0 c2) (.slice (some ⟨g2', 0, none⟩) N1 c2') p) := P8.out.same (fun b _ h2 => HB9.out.block b (by omega))
  have T9 : Hid (NdR.Own w10 (w4.heap.size + 1) w5.heap.size (.slice (some ⟨g3, 0, none⟩) M c3) ms) := T8.out.below HB9.out (by omega)
  have G9 : Hid (NdR.Own w10 w5.heap.size w6.heap.size (.slice ga gn gc) xs) := G8.out.below HB9.out hz8
  have hz9 : w6.heap.size ≤ w10.heap.size := Nat.le_trans hz8 HB9.out.size
  clear B8 X8 S8 P8 T8 G8 HB9
  have z0 : w10.cell? ⟨w4.heap.size, 0, none⟩ = some (.slice (some ⟨g2, 0, none⟩) N0 c2) := X9.out.cell 0
  have z1 : w10.cell? ⟨w4.heap.size, 1, none⟩ = some (.slice (some ⟨g2', 0, none⟩) N1 c2') := X9.out.cell 1
  go_wp2_with fail
  go_at_call 14
  refine Calls.mono (markProgram_any wC.heap.size w4.heap.size _ _ p w10 P9.out (by omega) HL.out.1.1) ?_
  rintro e w11 ⟨⟨km, rfl, hkm, hkp⟩, hrim⟩
  have B11 : Hid (Box w (.cells #[a0, a1] 25) w11) := ⟨B9.out.b.trans ((hrim.below (by omega)).mono (by omega))⟩
  have S11 : Hid (NdR.Own w11 wB.heap.size wC.heap.size (.slice sa sn sc) xs) := S9.out.same (fun g _ h2 => hrim.block g (by omega) (.inl h2))
  have T11 : Hid (NdR.Own w11 (w4.heap.size + 1) w5.heap.size (.slice (some ⟨g3, 0, none⟩) M c3) ms) := T9.out.same (fun g h1 h2 => hrim.block g (by omega) (.inr (by omega)))
  have G11 : Hid (NdR.Own w11 w5.heap.size w6.heap.size (.slice ga gn gc) xs) := G9.out.same (fun g h1 h2 => hrim.block g (by omega) (.inr (by omega)))
  have hz11 : w6.heap.size ≤ w11.heap.size := Nat.le_trans hz9 hrim.size
  clear hrim B9 X9 S9 P9 T9 G9 z0 z1
  obtain ⟨ts, hts, htp, htn, htb⟩ := T11.out
  have hmk : km + markN lnNdP ts ≤ 1000000000 := by
    have h1 := lnNd_sz ms
    have h2 : markN lnNdP ts = markN lnNd ms := by rw [lnNdP_map, ← hts]; rfl
    have := HL.out.2
    omega
  have cM : Hid (Calls Try.prog 15 #[.slice (some ⟨g3, 0, none⟩) M c3, .int .i64 (km : Int)] w11 fun e' w' => e' = .returned (.int .i64 ((km + markN lnNdP ts : Nat) : Int)) ∧ NdR.Phys w' (w4.heap.size + 1) (.slice (some ⟨g3, 0, none⟩) M c3) (markL mkNdP lnNdP km ts) ∧ Kept (NdR.all (.slice (some ⟨g3, 0, none⟩) M c3) ts) w11 w') := markNodeS_any (w4.heap.size + 1) _ km ts w11 hmk hkp htp htn
  have HTB : Hid (∀ g ∈ fps (NdR.all (.slice (some ⟨g3, 0, none⟩) M c3) ts), w4.heap.size + 1 ≤ g ∧ g < w5.heap.size) := htb
  clear htp htn htb hts T11
  obtain ⟨kn, hkn⟩ : ∃ y : Nat, Hid (km + markN lnNdP ts = y) := ⟨_, (rfl : km + markN lnNdP ts = km + markN lnNdP ts)⟩
  rw [hkn.out] at cM hmk
  go_wp2_with fail
  go_at_call 15
  refine Calls.mono cM.out ?_
  rintro e w12 ⟨rfl, _, hk⟩
  have B12 : Hid (Box w (.cells #[a0, a1] 25) w12) := ⟨B11.out.b.trans (hk.below (by omega) (fun g hg => by have := (HTB.out g hg).1; omega))⟩
  have S12 : Hid (NdR.Own w12 wB.heap.size wC.heap.size (.slice sa sn sc) xs) := S11.out.same (fun g _ h2 => hk.block g (by omega) (fun hm => by have := (HTB.out g hm).1; omega))
  have G12 : Hid (NdR.Own w12 w5.heap.size w6.heap.size (.slice ga gn gc) xs) := G11.out.same (fun g h1 h2 => hk.block g (by omega) (fun hm => by have := (HTB.out g hm).2; omega))
  have hz12 : w6.heap.size ≤ w12.heap.size := Nat.le_trans hz11 hk.size
  clear hk B11 S11 G11 cM HTB
  have hknn : ¬ (kn : Int) < 0 := by omega
  go_wp2_with fail
  go_at_call 12
  refine Calls.mono (cE.out _ _ _ (G12.out.row.up hz12) (S12.out.row.up (by omega))) ?_
  rintro e w13 ⟨rfl, hb⟩
  have B13 : Hid (Box w (.cells #[a0, a1] 25) w13) := B12.out.next hb
  have S13 : Hid (NdR.Own w13 wB.heap.size wC.heap.size (.slice sa sn sc) xs) := S12.out.below hb (by omega)
  have G13 : Hid (NdR.Own w13 w5.heap.size w6.heap.size (.slice ga gn gc) xs) := G12.out.below hb hz12
  have hz13 : w6.heap.size ≤ w13.heap.size := Nat.le_trans hz12 hb.size
  clear hb B12 S12 G12
  obtain ⟨gs, hgs, hgp, hgn, hgb⟩ := G13.out
  have HGM : Hid (markN lnNdP gs = markN lnNd xs) := by show _ = _; rw [lnNdP_map, ← hgs]; rfl
  have cN : Hid (Calls Try.prog 15 #[.slice ga gn gc, .int .i64 ((1 : Nat) : Int)] w13 fun e' w' => e' = .returned (.int .i64 ((1 + markN lnNdP gs : Nat) : Int)) ∧ NdR.Phys w' w5.heap.size (.slice ga gn gc) (markL mkNdP lnNdP 1 gs) ∧ Kept (NdR.all (.slice ga gn gc) gs) w13 w') := markNodeS_any w5.heap.size _ 1 gs w13 (by rw [HGM.out]; exact HX.out.mark) (by omega) hgp hgn
  have HGB : Hid ((∀ g ∈ fps (NdR.all (.slice ga gn gc) gs), w5.heap.size ≤ g ∧ g < w6.heap.size) ∧ gs.map Prod.fst = xs) := ⟨hgb, hgs⟩
  clear hgs hgp hgn hgb G13
  obtain ⟨Y, hY⟩ : ∃ y : Nat, Hid (1 + markN lnNd xs = y) := ⟨_, (rfl : 1 + markN lnNd xs = 1 + markN lnNd xs)⟩
  rw [HGM.out, hY.out] at cN
  have hYb : Y ≤ 1000000000 := by rw [← hY.out]; exact HX.out.mark
  have hYn : ¬ (Y : Int) < 0 := by omega
  go_wp2_with fail
  go_at_call 15
  refine Calls.mono cN.out ?_
  rintro e w14 ⟨rfl, hph, hk⟩
  have B14 : Hid (Box w (.cells #[a0, a1] 25) w14) := ⟨B13.out.b.trans (hk.below (by omega) (fun g hg => by have := (HGB.out.1 g hg).1; omega))⟩
  have S14 : Hid (NdR.Own w14 wB.heap.size wC.heap.size (.slice sa sn sc) xs) := S13.out.same (fun g _ h2 => hk.block g (by omega) (fun hm => by have := (HGB.out.1 g hm).1; omega))
  have G14 : Hid (NdR.Row w14 w14.heap.size (.slice ga gn gc) (markL mkNd lnNd 1 xs)) := by
    have h1 := hph.read (H := w14.heap.size) (fun g hg => (hph.lt g hg).2)
    have h2 : (markL mkNdP lnNdP 1 gs).map NdR.log = markL mkNd lnNd 1 xs := by
      rw [← HGB.out.2]
      exact markTo_map (mk' := mkNd) (ln' := lnNd) (log := Prod.fst) (fun _ _ => rfl) (fun _ => rfl) gs 1
    rw [h2] at h1
    exact h1
  have hz14 : w6.heap.size ≤ w14.heap.size := Nat.le_trans hz13 hk.size
  clear hk hph B13 S13 cN HGB HGM
  have cH : Hid (∀ W, NdR.Row W W.heap.size (.slice ga gn gc) (markL mkNd lnNd 1 xs) → Calls Try.prog 16 #[.slice ga gn gc, .int .i64 ((1 : Nat) : Int)] W fun e' w' => e' = .returned (.int .i64 (Y : Int)) ∧ Below W.heap.size W w') := fun W h => by
    have h1 := heldNodeS_any W.heap.size _ 1 xs W (Nat.le_refl _) HX.out.mark (by omega) h
    rw [hY.out] at h1
    exact h1
  go_wp2_with fail
  go_at_call 16
  refine Calls.mono (cH.out _ G14.out) ?_
  rintro e w15 ⟨rfl, hb⟩
  have B15 : Hid (Box w (.cells #[a0, a1] 25) w15) := B14.out.next hb
  have S15 : Hid (NdR.Own w15 wB.heap.size wC.heap.size (.slice sa sn sc) xs) := S14.out.below hb (by omega)
  have G15 : Hid (NdR.Row w15 w15.heap.size (.slice ga gn gc) (markL mkNd lnNd 1 xs)) := (G14.out.keep hb).up hb.size
  have hz15 : w6.heap.size ≤ w15.heap.size := Nat.le_trans hz14 hb.size
  clear hb B14 S14 G14
  have x0 : w15.cell? ⟨w.heap.size, 0, none⟩ = some a0 := B15.out.cell 0
  have x1 : w15.cell? ⟨w.heap.size, 1, none⟩ = some a1 := B15.out.cell 1
  go_wp2_with fail
  go_at_call 9
  refine Calls.mono (cT.out _ B15.out.below) ?_
  rintro e w16 ⟨g5, c5, g5', c5', rfl, ho, hb⟩
  have B16 : Hid (Box w (.cells #[a0, a1] 25) w16) := B15.out.next hb
  have S16 : Hid (NdR.Own w16 wB.heap.size wC.heap.size (.slice sa sn sc) xs) := S15.out.below hb (by omega)
  have G16 : Hid (NdR.Row w16 w16.heap.size (.slice ga gn gc) (markL mkNd lnNd 1 xs)) := (G15.out.keep hb).up hb.size
  have R16 : Hid (RowPg w16 w16.heap.size (.slice (some ⟨g5, 0, none⟩) N0 c5) (.slice (some ⟨g5', 0, none⟩) N1 c5') p) := ho.row
  have hz16 : w6.heap.size ≤ w16.heap.size := Nat.le_trans hz15 hb.size
  clear hb ho B15 S15 G15 x0 x1
  go_wp2_with fail
  go_at_call 10
  refine Calls.mono (cU.out _ B16.out.below) ?_
  rintro e w17 ⟨g6, c6, rfl, ho, hb⟩
  have B17 : Hid (Box w (.cells #[a0, a1] 25) w17) := B16.out.next hb
  have S17 : Hid (NdR.Own w17 wB.heap.size wC.heap.size (.slice sa sn sc) xs) := S16.out.below hb (by omega)
  have G17 : Hid (NdR.Row w17 w17.heap.size (.slice ga gn gc) (markL mkNd lnNd 1 xs)) := (G16.out.keep hb).up hb.size
  have R17 : Hid (RowPg w17 w17.heap.size (.slice (some ⟨g5, 0, none⟩) N0 c5) (.slice (some ⟨g5', 0, none⟩) N1 c5') p ∧ NdR.Row w17 w17.heap.size (.slice (some ⟨g6, 0, none⟩) M c6) ms) := ⟨(R16.out.keep hb).up hb.size, ho.row⟩
  have hz17 : w6.heap.size ≤ w17.heap.size := Nat.le_trans hz16 hb.size
  clear hb ho B16 S16 G16 R16
  go_wp2_with fail
  go_at_call 11
  refine Calls.mono (cI.out _ _ _ _ R17.out.1 R17.out.2) ?_
  rintro e w18 ⟨ha, hn, hc, rfl, ho, hb⟩
  have B18 : Hid (Box w (.cells #[a0, a1] 25) w18) := B17.out.next hb
  have S18 : Hid (NdR.Own w18 wB.heap.size wC.heap.size (.slice sa sn sc) xs) := S17.out.below hb (by omega)
  have G18 : Hid (NdR.Row w18 w18.heap.size (.slice ga gn gc) (markL mkNd lnNd 1 xs)) := (G17.out.keep hb).up hb.size
  have H18 : Hid (NdR.Row w18 w18.heap.size (.slice ha hn hc) xs) := ho.row
  have hz18 : w6.heap.size ≤ w18.heap.size := Nat.le_trans hz17 hb.size
  clear hb ho B17 S17 G17 R17 cI
  go_wp2_with fail
  go_at_call 12
  refine Calls.mono (cE.out _ _ _ H18.out (S18.out.row.up (by omega))) ?_
  rintro e w19 ⟨rfl, hb⟩
  have B19 : Hid (Box w (.cells #[a0, a1] 25) w19) := B18.out.next hb
  have G19 : Hid (NdR.Row w19 w19.heap.size (.slice ga gn gc) (markL mkNd lnNd 1 xs)) := (G18.out.keep hb).up hb.size
  clear hb B18 S18 G18 H18
  go_wp2_with fail
  go_at_call 16
  refine Calls.mono (cH.out _ G19.out) ?_
  rintro e w20 ⟨rfl, hb⟩
  have B20 : Hid (Box w (.cells #[a0, a1] 25) w20) := B19.out.next hb
  clear hb B19 G19
  go_wp2
  go_ret
  exact ⟨rfl, B20.out.below⟩

end Go.Proofs.Ytehdaliebloglaa
