/-
  ShowProgram, in the program: what it answers at every program; where the texts of types and the powers of ten lie as their texts lay them.
-/
import Derived.Test.YtbanmldmdoedkaaGreatDoorShPY
import Derived.Test.YtbanmldmdoedkaaGreatDoorShowP
import Derived.Test.YtbanmldmdoedkaaGreatDoorPr
namespace Go.Proofs.YtbanmldmdoedkaaGreatDoor
open Go.RowKit

set_option maxRecDepth 100000 in
set_option maxHeartbeats 6400000 in
theorem implShowProgram_any (v0 v1 : Value) (p : Pg) (w : World) (hR : RowPg w w.heap.size v0 v1 p) (hl : szPg p ≤ 1048576) (L : List UInt8) (ok : Bool) (hL : Hid (showPrg p = (L, ok))) (ht : DoorS w) :
    Calls Tryz.prog 24 #[.agg #[v0, v1]] w (TellsB L ok w) := by
  obtain ⟨na, nc, rfl⟩ := hR.1.len
  obtain ⟨fa, fc, rfl⟩ := hR.2.len
  obtain ⟨N, HN⟩ : ∃ N, Hid (p.nodes.length = N) := ⟨_, (rfl : p.nodes.length = p.nodes.length)⟩
  obtain ⟨F, HF⟩ : ∃ N, Hid (p.fns.length = N) := ⟨_, (rfl : p.fns.length = p.fns.length)⟩
  have HR : Hid (RowPg w w.heap.size (.slice na N nc) (.slice fa F fc) p) := by rw [← HN.out, ← HF.out]; exact hR
  have HL : Hid (szPg p ≤ 1048576) := hl
  have HT : Hid (DoorS w) := ht
  rw [HN.out, HF.out]
  obtain ⟨pok, hpok⟩ : ∃ b, Hid (programOk p = b) := ⟨_, (rfl : programOk p = programOk p)⟩
  have cP : Hid (∀ W, Below w.heap.size w W → Calls Tryz.prog 33 #[.agg #[.slice na N nc, .slice fa F fc]] W fun e w' => e = .returned (.bool pok) ∧ Below W.heap.size W w') := fun W hW => by
    rw [← hpok.out]
    exact implProgramOk_any _ _ p W ((HR.out.keep hW).up hW.size) HL.out
  clear hR hl ht
  go_enter Tryz.func24, Tryz.ntmps24
  go_wp2_with fail
  go_at_call 33
  refine Calls.mono (cP.out _ (by go_grown)) ?_
  rintro e w1 ⟨rfl, hb1⟩
  have B1 : Hid (Box w (.cells #[.slice na N nc, .slice fa F fc] 27) w1) := (Box.first _ _).next hb1
  clear hb1 cP
  cases pok
  · have HE : Hid ((L, ok) = (([] : List UInt8), false)) := by show _ = _; rw [← hL.out]; unfold showPrg; rw [hpok.out]; rfl
    cases HE.out
    go_wp2
    go_ret2
    exact ⟨rfl, B1.out.below⟩
  have HPK : Hid (programOk p = true) := hpok.out
  obtain ⟨hN1, hF8, hdd⟩ := prog_deep HPK.out
  have HDD : Hid (deepOf p.nodes ((p.nodes.length - 1 : Nat) : Int) ≠ 0) := hdd
  rw [HF.out] at hF8
  rw [HN.out] at hN1 HDD
  have hN9 : N < 1000000000 := by
    have h1 := len_szRow szNd p.nodes
    have h2 := le_szPg_nodes p
    have h3 := HL.out
    have h4 := HN.out
    omega
  clear hdd hpok
  have p0 := B1.out.cell 0
  have p1 := B1.out.cell 1
  simp at p0 p1
  have HB1 : Hid (Below w.heap.size w w1 ∧ w.heap.size ≤ w1.heap.size) := ⟨B1.out.below, Nat.le_of_lt B1.out.lt⟩
  have H0 : Hid (Below w1.heap.size w1 (w1.alloc (.cells #[.slice na N nc, .pointer none, .slice none 0 0] 94))) := (Below.refl _ _).alloc (Nat.le_refl _) _
  have S0 : Hid (Stand w1 (w1.alloc (.cells #[.slice na N nc, .pointer none, .slice none 0 0] 94)) w1.heap.size (.slice na N nc) (prgTo p 0) (w1.alloc (.cells #[.slice na N nc, .pointer none, .slice none 0 0] 94))) := Stand.first (Lw.fresh w1 _)
  have HZ : Hid (∀ t, t ≤ F → (prgTo p t).length ≤ 112000000000) := fun t ht => prgTo_len6 HPK.out t (by rw [HF.out]; exact ht)
  have hww : w.heap.size < w1.heap.size := B1.out.lt
  go_wp2
  generalize w1.alloc (.cells #[.slice na N nc, .pointer none, .slice none 0 0] 94) = a at H0 S0 ⊢
  have hza : Hid (w1.heap.size ≤ a.heap.size) := H0.out.size
  clear p0 p1 hww
  go_loopw [16] (fun j wr => ∃ t : Nat, t ≤ F ∧ j = .int .i64 (t : Int) ∧ Hid (Stand w1 a w1.heap.size (.slice na N nc) (prgTo p t) wr)) (fun j _ => F - (intOf j).toNat)
  case atStart => exact ⟨0, Nat.zero_le _, rfl, S0⟩
  case round =>
    obtain ⟨t, ht, rfl, HS⟩ := hrel
    have HWB : Hid (Below w.heap.size w wr ∧ Below w1.heap.size w1 wr) := ⟨HB1.out.1.trans ((H0.out.trans HS.out.2.1).mono HB1.out.2), H0.out.trans HS.out.2.1⟩
    by_cases hlt : t < F
    · have ht0 : (0 : Int) ≤ (t : Int) := by omega
      have ht1 : (t : Int) < (F : Int) := by omega
      have htl : t < p.fns.length := by rw [HF.out]; exact hlt
      have HFF := fn_facts HPK.out htl
      have HTY := fn_types HPK.out htl
      obtain ⟨fb, off, pv, rfl, hb, c0, c1, c2, c3, c4, hp⟩ := FcR.at HR.out.2 t htl
      obtain ⟨pa, pc, rfl⟩ := hp.len
      obtain ⟨q, hqe⟩ : ∃ q, Hid (p.fns[t] = q) := ⟨_, (rfl : p.fns[t] = p.fns[t])⟩
      have HQ : Hid (p.fns.getD t fc0 = q) := by show _ = _; rw [← hqe.out]; simp [List.getD, htl]
      rw [HQ.out] at HFF HTY
      rw [hqe.out] at c0 c1 c2 c3 c4 hp
      have d0 := (HWB.out.1.cell (p := ⟨fb, off + t * 5, none⟩) hb).trans c0
      have d1 := (HWB.out.1.cell (p := ⟨fb, off + t * 5 + 1, none⟩) hb).trans c1
      have d2 := (HWB.out.1.cell (p := ⟨fb, off + t * 5 + 2, none⟩) hb).trans c2
      have d3 := (HWB.out.1.cell (p := ⟨fb, off + t * 5 + 3, none⟩) hb).trans c3
      have d4 := (HWB.out.1.cell (p := ⟨fb, off + t * 5 + 4, none⟩) hb).trans c4
      obtain ⟨fn, fp, res, body, ret⟩ := q
      simp only at d0 d1 d2 d3 d4 hp HTY
      obtain ⟨P, HP⟩ : ∃ n, Hid (fp.length = n) := ⟨_, (rfl : fp.length = fp.length)⟩
      rw [HP.out] at d1 hp
      have HE2 : Hid (prgTo p (t + 1) = prgTo p t ++ fnT p.nodes ⟨fn, fp, res, body, ret⟩) := by show _ = _; simp only [prgTo]; rw [HQ.out]
      have HZ2 : Hid ((prgTo p t).length + (fnT p.nodes ⟨fn, fp, res, body, ret⟩).length ≤ 100000000000000) := by
        have h1 := congrArg List.length HE2.out
        have h2 := HZ.out (t + 1) (by omega)
        rw [List.length_append] at h1
        show _ ≤ _
        omega
      have cF : Hid (Writes Tryz.prog 61 #[.pointer (some ⟨w1.heap.size, 0, none⟩), .agg #[.string fn, .slice pa P pc, .int .i64 res, .int .i64 body, .int .i64 ret]] w1 w1.heap.size (.slice na N nc) (fnT p.nodes ⟨fn, fp, res, body, ret⟩)) :=
        lwFn_of na pa N nc (N - 1) w1.heap.size P pc p.nodes w1 _ (rfl : (Value.slice na N nc) = _) HN hN9 (by omega) (by omega) HDD ((HR.out.1.keep HB1.out.1).up HB1.out.2) (HT.out.below HB1.out.1) fn fp res body ret HP ((hp.keep HB1.out.1).up HB1.out.2) HFF HTY
      have S1 : Hid (Stand w1 a w1.heap.size (.slice na N nc) (prgTo p t) (wr.alloc (.cells #[.string fn, .slice pa P pc, .int .i64 res, .int .i64 body, .int .i64 ret] 55))) := HS.out.alloc hza.out _
      clear c0 c1 c2 c3 c4 hp
      go_wp2_with fail
      go_at_call 61
      refine Calls.mono (S1.out.call H0.out cF.out HZ2.out) ?_
      rintro e w2 ⟨rfl, s2⟩
      have S2 : Hid (Stand w1 a w1.heap.size (.slice na N nc) (prgTo p (t + 1)) w2) := by rw [HE2.out]; exact s2
      clear s2
      go_wp2
      go_roundw
      case rel => exact ⟨t + 1, by omega, by go_num, S2⟩
      case measure => simp [intOf]; omega
    · have htF : t = F := by omega
      have HAll : Hid (prgTo p p.fns.length = prgTo p t) := by show _ = _; rw [HF.out, htF]
      clear htF
      obtain ⟨G, hG⟩ : ∃ G, Hid (prgTo p t = G) := ⟨_, (rfl : prgTo p t = prgTo p t)⟩
      rw [hG.out] at HAll HS
      obtain ⟨gl, hgl⟩ : ∃ n, Hid (G.length = n) := ⟨_, (rfl : G.length = G.length)⟩
      have cN : Hid (∀ W, W = wr → Calls Tryz.prog 62 #[.pointer (some ⟨w1.heap.size, 1, none⟩)] W fun e w' => e = .returned (.int .i64 (gl : Int)) ∧ w' = W) := fun W e => by rw [← hgl.out, e]; exact lwLen_any _ _ _ G wr HS.out.1
      by_cases hbig : 3000 < gl
      · have hb3 : (3000 : Int) < (gl : Int) := by omega
        have HE : Hid ((L, ok) = (([] : List UInt8), false)) := by
          show _ = _
          rw [← hL.out]
          unfold showPrg
          rw [if_pos HPK.out, HAll.out, if_pos (by rw [hgl.out]; exact hbig)]
        cases HE.out
        go_wp2_with fail
        go_at_call 62
        refine Calls.mono (cN.out _ rfl) ?_
        rintro e w2 ⟨rfl, hw2⟩
        obtain rfl := hw2.symm
        go_wp2
        go_ret2
        exact ⟨rfl, HWB.out.1⟩
      · have hb3 : ¬ (3000 : Int) < (gl : Int) := by omega
        have HE : Hid ((L, ok) = (G, true)) := by
          show _ = _
          rw [← hL.out]
          unfold showPrg
          rw [if_pos HPK.out, HAll.out, if_neg (by rw [hgl.out]; exact hbig)]
        cases HE.out
        have cS : Hid (∀ W, W = wr → Calls Tryz.prog 58 #[.pointer (some ⟨w1.heap.size, 1, none⟩)] W fun e w' => e = .returned (.string (txt L)) ∧ Below w1.heap.size W w') := fun W e => by rw [e]; exact lwText_any w1.heap.size w1.heap.size _ L wr HS.out.1 HWB.out.2.size
        go_wp2_with fail
        go_at_call 62
        refine Calls.mono (cN.out _ rfl) ?_
        rintro e w2 ⟨rfl, hw2⟩
        obtain rfl := hw2.symm
        obtain ⟨TX, hTX⟩ : ∃ TX, Hid (txt L = TX) := ⟨_, (rfl : txt L = txt L)⟩
        rw [hTX.out] at cS
        go_wp2_with fail
        go_at_call 58
        refine Calls.mono (cS.out _ rfl) ?_
        rintro e w3 ⟨rfl, hb3⟩
        have HFin : Hid (Below w.heap.size w w3) := HWB.out.1.trans (hb3.mono HB1.out.2)
        clear hb3
        go_wp2
        go_ret2
        exact ⟨by rw [hTX.out]; rfl, HFin.out⟩

end Go.Proofs.YtbanmldmdoedkaaGreatDoor
