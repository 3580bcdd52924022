/-
  ShowProgram, in the model: what it answers at every program.
-/
import Derived.Test.YtbanmldmdoedkaaGreatDoorShowU
import Derived.Test.YtbanmldmdoedkaaGreatDoorPa
import Derived.Test.YtbanmldmdoedkaaGreatDoorPr
namespace Go.Proofs.YtbanmldmdoedkaaGreatDoor
open Go.RowKit

theorem l06Type_any (t : Int) (w : World) : Calls Tryz.prog 28 #[.int .i64 t] w fun e w' => e = .returned (.string (txt (tyL t))) ∧ w' = w := by
  by_cases h1 : t = 1
  · subst h1
    go_enter Tryz.func28, Tryz.ntmps28
    go_wp2
    go_ret
    exact ⟨rfl, rfl⟩
  by_cases h2 : t = 2
  · subst h2
    go_enter Tryz.func28, Tryz.ntmps28
    go_wp2
    go_ret
    exact ⟨rfl, rfl⟩
  by_cases h3 : t = 3
  · subst h3
    go_enter Tryz.func28, Tryz.ntmps28
    go_wp2
    go_ret
    exact ⟨rfl, rfl⟩
  have e1 : (t == 1) = false := by simpa using h1
  have e2 : (t == 2) = false := by simpa using h2
  have e3 : (t == 3) = false := by simpa using h3
  have HE : Hid (tyL t = [38, 109, 117, 116, 32, 98, 111, 120]) := by show _ = _; unfold tyL; rw [if_neg h1, if_neg h2, if_neg h3]
  rw [HE.out]
  go_enter Tryz.func28, Tryz.ntmps28
  go_wp2
  go_ret
  exact ⟨rfl, rfl⟩

theorem append_txt_nil (a : ByteArray) : a ++ txt [] = a := by
  apply ByteArray.ext
  simp [txt, ByteArray.data_append]
theorem eq_txt {S : ByteArray} {L : List UInt8} (h : S.data.toList = L) : S = txt L := by
  rw [← h, txt_data]
theorem txt_list (L : List UInt8) : (txt L).data.toList = L := by simp [txt]
theorem heap_size_of {w : World} {g : Nat} {o : Obj} (h : w.heap[g]? = some o) : g < w.heap.size := by
  rcases Nat.lt_or_ge g w.heap.size with h1 | h1
  · exact h1
  · rw [Array.getElem?_eq_none h1] at h
    cases h
/-- The answer, as a call gives it. -/
def TellsB (L : List UInt8) (ok : Bool) (w : World) (e : Ending) (w' : World) : Prop := e = .returned (.tuple #[.string (txt L), .bool ok]) ∧ Below w.heap.size w w'

set_option maxRecDepth 100000 in
set_option maxHeartbeats 6400000 in
theorem specShowProgram_any (v0 v1 : Value) (p : Pg) (w : World) (hR : RowPg w w.heap.size v0 v1 p) (hl : szPg p ≤ 1048576) (L : List UInt8) (ok : Bool) (hL : Hid (showPrg p = (L, ok))) :
    Calls Tryz.prog 8 #[.agg #[v0, v1]] w (TellsB L ok w) := by
  obtain ⟨na, nc, rfl⟩ := hR.1.len
  obtain ⟨fa, fc, rfl⟩ := hR.2.len
  obtain ⟨N, HN⟩ : ∃ N, Hid (p.nodes.length = N) := ⟨_, (rfl : p.nodes.length = p.nodes.length)⟩
  obtain ⟨F, HF⟩ : ∃ N, Hid (p.fns.length = N) := ⟨_, (rfl : p.fns.length = p.fns.length)⟩
  have HR : Hid (RowPg w w.heap.size (.slice na N nc) (.slice fa F fc) p) := by rw [← HN.out, ← HF.out]; exact hR
  have HL : Hid (szPg p ≤ 1048576) := hl
  rw [HN.out, HF.out]
  obtain ⟨pok, hpok⟩ : ∃ b, Hid (programOk p = b) := ⟨_, (rfl : programOk p = programOk p)⟩
  have cP : Hid (∀ W, Below w.heap.size w W → Calls Tryz.prog 27 #[.agg #[.slice na N nc, .slice fa F fc]] W fun e w' => e = .returned (.bool pok) ∧ Below W.heap.size W w') := fun W hW => by
    rw [← hpok.out]
    exact specProgramOk_any _ _ p W ((HR.out.keep hW).up hW.size) HL.out
  clear hR hl
  go_enter Tryz.func8, Tryz.ntmps8
  go_wp2_with fail
  go_at_call 27
  refine Calls.mono (cP.out _ (by go_grown)) ?_
  rintro e w1 ⟨rfl, hb1⟩
  have B1 : Hid (Box w (.cells #[.slice na N nc, .slice fa F fc] 27) w1) := (Box.first _ _).next hb1
  clear hb1 cP
  cases pok
  · have HE : Hid ((L, ok) = (([] : List UInt8), false)) := by show _ = _; rw [← hL.out]; unfold showPrg; rw [hpok.out]; rfl
    cases HE.out
    go_wp2
    go_ret2
    exact ⟨rfl, B1.out.below⟩
  have HPK : Hid (programOk p = true) := hpok.out
  obtain ⟨hN1, hF8, hdd⟩ := prog_deep HPK.out
  have HDD : Hid (deepOf p.nodes ((p.nodes.length - 1 : Nat) : Int) ≠ 0) := hdd
  rw [HF.out] at hF8
  have hml : p.nodes.length - 1 < p.nodes.length := by omega
  have hNN : N - 1 < N := by have := HN.out; omega
  clear hdd hpok
  have p0 := B1.out.cell 0
  have p1 := B1.out.cell 1
  simp at p0 p1
  go_wp2_with fail
  go_loopw [4, 5] (fun s i wr => ∃ (t : Nat) (S : ByteArray), t ≤ F ∧ i = .int .i64 (t : Int) ∧ s = .string S ∧ Hid (S = txt (prgTo p t)) ∧ Hid (Box w (.cells #[.slice na N nc, .slice fa F fc] 27) wr)) (fun _ i _ => F - (intOf i).toNat)
  case atStart => exact ⟨0, _, Nat.zero_le _, rfl, rfl, rfl, B1⟩
  case round =>
    obtain ⟨t, S, ht, rfl, rfl, HS, HW⟩ := hrel
    have q0 : wr.cell? ⟨w.heap.size, 0, none⟩ = some (.slice na N nc) := HW.out.cell 0
    have q1 : wr.cell? ⟨w.heap.size, 1, none⟩ = some (.slice fa F fc) := HW.out.cell 1
    have hww : w.heap.size < wr.heap.size := HW.out.lt
    have hSs : S.size ≤ 104000000000000000 := by
      rw [HS.out, txt_size]
      have h1 := prgTo_len HPK.out t (by rw [HF.out]; exact ht)
      have h2 : t * 13000000000000000 ≤ 8 * 13000000000000000 := Nat.mul_le_mul_right _ (by omega)
      omega
    clear p0 p1
    by_cases hlt : t < F
    · have ht0 : (0 : Int) ≤ (t : Int) := by omega
      have ht1 : (t : Int) < (F : Int) := by omega
      have htl : t < p.fns.length := by rw [HF.out]; exact hlt
      have HFF := fn_facts HPK.out htl
      obtain ⟨b, off, pv, rfl, hb, c0, c1, c2, c3, c4, hp⟩ := FcR.at HR.out.2 t htl
      obtain ⟨pa, pc, rfl⟩ := hp.len
      obtain ⟨q, hqe⟩ : ∃ q, Hid (p.fns[t] = q) := ⟨_, (rfl : p.fns[t] = p.fns[t])⟩
      have HQ : Hid (p.fns.getD t fc0 = q) := by show _ = _; rw [← hqe.out]; simp [List.getD, htl]
      rw [HQ.out] at HFF
      rw [hqe.out] at c0 c1 c2 c3 c4 hp
      have d0 := (HW.out.below.cell (p := ⟨b, off + t * 5, none⟩) hb).trans c0
      have d1 := (HW.out.below.cell (p := ⟨b, off + t * 5 + 1, none⟩) hb).trans c1
      have d2 := (HW.out.below.cell (p := ⟨b, off + t * 5 + 2, none⟩) hb).trans c2
      have d3 := (HW.out.below.cell (p := ⟨b, off + t * 5 + 3, none⟩) hb).trans c3
      have d4 := (HW.out.below.cell (p := ⟨b, off + t * 5 + 4, none⟩) hb).trans c4
      obtain ⟨fn, fp, res, body, ret⟩ := q
      simp only at d0 d1 d2 d3 d4 hp
      obtain ⟨P, HP⟩ : ∃ n, Hid (fp.length = n) := ⟨_, (rfl : fp.length = fp.length)⟩
      rw [HP.out] at d1 hp
      have HPR : Hid (PmR.Row w w.heap.size (.slice pa P pc) fp) := hp
      have HFS : Hid (FnFacts p.nodes ⟨fn, fp, res, body, ret⟩) := HFF
      have hfn : fn.size ≤ 8 := HFF.name
      have hP3 : P ≤ 3 := by rw [← HP.out]; exact HFF.few
      have hbr : b < wr.heap.size := by omega
      have HX : Hid ((wr.alloc (.cells #[.string fn, .slice pa P pc, .int .i64 res, .int .i64 body, .int .i64 ret] 55)).heap[wr.heap.size]? = some (.cells #[.string fn, .slice pa P pc, .int .i64 res, .int .i64 body, .int .i64 ret] 55) ∧ Box w (.cells #[.slice na N nc, .slice (some ⟨b, off, none⟩) F fc] 27) (wr.alloc (.cells #[.string fn, .slice pa P pc, .int .i64 res, .int .i64 body, .int .i64 ret] 55)) ∧ w.heap.size < wr.heap.size) := ⟨heap_alloc_new _ _, HW.out.alloc _, hww⟩
      clear c0 c1 c2 c3 c4 hp HFF
      have htx : Hid (txt fn.data.toList = fn) := txt_data fn
      have HS1 : Hid (S ++ ⟨#[102, 110, 32]⟩ ++ fn ++ ⟨#[40]⟩ = txt (prgTo p t ++ [102, 110, 32] ++ fn.data.toList ++ [40] ++ parTo fp 0)) := by
        show _ = _
        simp only [parTo, List.append_nil, ← txt_append]
        rw [htx.out, ← HS.out]
        rfl
      have HPl : Hid (∀ u, u ≤ P → (parTo fp u).length ≤ 60) := fun u hu => by
        have hpr : ∀ q ∈ fp, q.name.size ≤ 8 := HFS.out.pars
        have h1 := parTo_len hpr u (by rw [HP.out]; exact hu)
        have h2 : u * 20 ≤ 3 * 20 := Nat.mul_le_mul_right _ (by omega)
        omega
      have HPre : Hid ((prgTo p t ++ [102, 110, 32] ++ fn.data.toList ++ [40]).length ≤ 104000000000000012) := by
        show _ ≤ _
        have h1 := prgTo_len HPK.out t (by rw [HF.out]; exact ht)
        have h2 : t * 13000000000000000 ≤ 8 * 13000000000000000 := Nat.mul_le_mul_right _ (by omega)
        have h3 : fn.data.toList.length ≤ 8 := by rw [Array.length_toList]; exact hfn
        simp only [List.length_append, List.length_cons, List.length_nil]
        omega
      go_wp2_with fail
      generalize wr.alloc (.cells #[.string fn, .slice pa P pc, .int .i64 res, .int .i64 body, .int .i64 ret] 55) = w4 at HX ⊢
      generalize wr.heap.size = y at HX ⊢
      clear d0 d1 d2 d3 d4 q0 q1 hbr hww HW
      go_loopw [4, 7] (fun s k wq => ∃ (u : Nat) (S2 : ByteArray), u ≤ P ∧ k = .int .i64 (u : Int) ∧ s = .string S2 ∧ Hid (S2 = txt (prgTo p t ++ [102, 110, 32] ++ fn.data.toList ++ [40] ++ parTo fp u)) ∧ Hid (wq.heap[y]? = some (.cells #[.string fn, .slice pa P pc, .int .i64 res, .int .i64 body, .int .i64 ret] 55) ∧ Box w (.cells #[.slice na N nc, .slice (some ⟨b, off, none⟩) F fc] 27) wq)) (fun _ k _ => P - (intOf k).toNat)
      case atStart => exact ⟨0, _, Nat.zero_le _, rfl, rfl, HS1, HX.out.1, HX.out.2.1⟩
      case round =>
        obtain ⟨u, S2, hu, rfl, rfl, HS2, HW2⟩ := hrel
        have y1 : wr.cell? ⟨y, 1, none⟩ = some (.slice pa P pc) := cell_at HW2.out.1 1
        have hyw : y < wr.heap.size := heap_size_of HW2.out.1
        have hS2 : S2.size ≤ 104000000000000072 := by
          rw [HS2.out, txt_size, List.length_append]
          have := HPl.out u hu
          have := HPre.out
          omega
        by_cases hul : u < P
        · have hu0 : (0 : Int) ≤ (u : Int) := by omega
          have hu1 : (u : Int) < (P : Int) := by omega
          have hupl : u < fp.length := by rw [HP.out]; exact hul
          obtain ⟨pb, po, rfl, hpb, f0, f1⟩ := PmR.at HPR.out u hupl
          obtain ⟨x, hx⟩ : ∃ x, Hid (fp[u] = x) := ⟨_, (rfl : fp[u] = fp[u])⟩
          have hxn : x.name.size ≤ 8 := by rw [← hx.out]; exact HFS.out.pars _ (List.getElem_mem hupl)
          rw [hx.out] at f0 f1
          have g0 := (HW2.out.2.below.cell (p := ⟨pb, po + u * 2, none⟩) hpb).trans f0
          have g1 := (HW2.out.2.below.cell (p := ⟨pb, po + u * 2 + 1, none⟩) hpb).trans f1
          obtain ⟨xn, xt⟩ := x
          simp only at g0 g1 hxn
          obtain ⟨Y, hY⟩ : ∃ Y, Hid (txt (tyL xt) = Y) := ⟨_, (rfl : txt (tyL xt) = txt (tyL xt))⟩
          have hYs : Y.size ≤ 8 := by rw [← hY.out, txt_size]; exact tyL_len xt
          have cY : Hid (∀ W, Calls Tryz.prog 28 #[.int .i64 xt] W fun e w' => e = .returned (.string Y) ∧ w' = W) := fun W => by rw [← hY.out]; exact l06Type_any xt W
          have HNX : Hid (txt (prgTo p t ++ [102, 110, 32] ++ fn.data.toList ++ [40] ++ parTo fp (u + 1)) = S2 ++ txt (if u = 0 then [] else [44, 32]) ++ xn ++ ⟨#[58, 32]⟩ ++ Y) := by
            show _ = _
            simp only [parTo, pm_getD hupl, hx.out, ← txt_append]
            rw [HS2.out, hY.out, txt_data xn]
            simp only [← txt_append, ByteArray.append_assoc]
            rfl
          clear f0 f1
          by_cases huz : u = 0
          · subst huz
            have HN2 : Hid (S2 ++ xn ++ ⟨#[58, 32]⟩ ++ Y = txt (prgTo p t ++ [102, 110, 32] ++ fn.data.toList ++ [40] ++ parTo fp (0 + 1))) := by
              show _ = _
              rw [HNX.out, if_pos rfl, append_txt_nil]
            simp only [Nat.zero_mul, Nat.add_zero] at g0 g1
            have hs0 : ¬ 9223372036854775807 < S2.size + xn.size := by omega
            have hs1 : ¬ 9223372036854775807 < S2.size + xn.size + 2 := by omega
            have hs2 : ¬ 9223372036854775807 < S2.size + xn.size + 2 + Y.size := by omega
            go_wp2_with fail
            go_region_held3 (fun W => W.cell? ⟨y, 1, none⟩ = some (.slice (some ⟨pb, po, none⟩) P pc) ∧ W.cell? ⟨pb, po, none⟩ = some (.string xn) ∧ W.cell? ⟨pb, po + 1, none⟩ = some (.int .i64 xt)) (first | exact ⟨y1, g0, g1⟩ | go_keep) ((go_at_call 28; refine Calls.mono (cY.out _) ?_; rintro e wY ⟨rfl, hwY⟩; have hwY2 := hwY.symm; subst hwY2))
            all_goals
              have HW3 : Hid (wr.drew.heap[y]? = some (.cells #[.string fn, .slice (some ⟨pb, po, none⟩) P pc, .int .i64 res, .int .i64 body, .int .i64 ret] 55) ∧ Box w (.cells #[.slice na N nc, .slice (some ⟨b, off, none⟩) F fc] 27) wr.drew) := ⟨HW2.out.1, HW2.out.2.drew⟩
              go_wp2
              go_roundw
              case rel => exact ⟨0 + 1, _, by omega, by go_num, rfl, HN2, HW3⟩
              case measure => simp [intOf]; omega
          · have hup : (0 : Int) < (u : Int) := by omega
            have HN2 : Hid (S2 ++ ⟨#[44, 32]⟩ ++ xn ++ ⟨#[58, 32]⟩ ++ Y = txt (prgTo p t ++ [102, 110, 32] ++ fn.data.toList ++ [40] ++ parTo fp (u + 1))) := by
              show _ = _
              rw [HNX.out, if_neg huz]
              rfl
            have hs9 : ¬ 9223372036854775807 < S2.size + 2 := by omega
            have hs0 : ¬ 9223372036854775807 < S2.size + 2 + xn.size := by omega
            have hs1 : ¬ 9223372036854775807 < S2.size + 2 + xn.size + 2 := by omega
            have hs2 : ¬ 9223372036854775807 < S2.size + 2 + xn.size + 2 + Y.size := by omega
            go_wp2_with fail
            go_region_held3 (fun W => W.cell? ⟨y, 1, none⟩ = some (.slice (some ⟨pb, po, none⟩) P pc) ∧ W.cell? ⟨pb, po + u * 2, none⟩ = some (.string xn) ∧ W.cell? ⟨pb, po + u * 2 + 1, none⟩ = some (.int .i64 xt)) (first | exact ⟨y1, g0, g1⟩ | go_keep) ((go_at_call 28; refine Calls.mono (cY.out _) ?_; rintro e wY ⟨rfl, hwY⟩; have hwY2 := hwY.symm; subst hwY2))
            all_goals
              have HW3 : Hid (wr.drew.heap[y]? = some (.cells #[.string fn, .slice (some ⟨pb, po, none⟩) P pc, .int .i64 res, .int .i64 body, .int .i64 ret] 55) ∧ Box w (.cells #[.slice na N nc, .slice (some ⟨b, off, none⟩) F fc] 27) wr.drew) := ⟨HW2.out.1, HW2.out.2.drew⟩
              go_wp2
              go_roundw
              case rel => exact ⟨u + 1, _, by omega, by go_num, rfl, HN2, HW3⟩
              case measure => simp [intOf]; omega
        · have huP : u = P := by omega
          subst huP
          have y2 : wr.cell? ⟨y, 2, none⟩ = some (.int .i64 res) := cell_at HW2.out.1 2
          have y3 : wr.cell? ⟨y, 3, none⟩ = some (.int .i64 body) := cell_at HW2.out.1 3
          have y4a : wr.cell? ⟨y, 4, none⟩ = some (.int .i64 ret) := cell_at HW2.out.1 4
          have q0 : wr.cell? ⟨w.heap.size, 0, none⟩ = some (.slice na N nc) := HW2.out.2.cell 0
          have hbd : 0 ≤ body ∧ body < (p.nodes.length : Int) ∧ (p.nodes.getD body.toNat nd0).kind = 20 := HFS.out.body
          obtain ⟨bn, rfl⟩ : ∃ bn : Nat, body = (bn : Int) := ⟨body.toNat, by omega⟩
          rw [Int.toNat_natCast] at hbd
          obtain ⟨Q, hQ⟩ : ∃ Q, Hid (txt (blkL p.nodes (stepL p.nodes) (bn : Int) 1) = Q) := ⟨_, (rfl : txt (blkL p.nodes (stepL p.nodes) (bn : Int) 1) = txt (blkL p.nodes (stepL p.nodes) (bn : Int) 1))⟩
          have hQs : Q.size ≤ 12000000000000000 := by rw [← hQ.out, txt_size]; exact body_len hml HDD.out (by omega) hbd.2.2 1
          have cB : Hid (∀ W, Below w.heap.size w W → Calls Tryz.prog 29 #[.slice na N nc, .int .i64 (bn : Int), .int .i64 1] W fun e w' => e = .returned (.string Q) ∧ Below W.heap.size W w') := fun W hW => by
            rw [← hQ.out]
            obtain ⟨h12, hk⟩ := body_kids hml HDD.out (b := bn) (by omega) hbd.2.2
            refine l06Block_of na N nc w.heap.size bn 1 p.nodes HN (by have := HN.out; omega) W hW.size (HR.out.1.keep hW) h12 (fun e he => ?_) (fun e he W' hW' => ?_) _ (rfl : blkL p.nodes (stepL p.nodes) (bn : Int) 1 = _)
            · obtain ⟨n, rfl, hn, hs⟩ := hk e he
              exact stepL_small hml HDD.out n (by omega) hs 1
            · obtain ⟨n, rfl, hn, hs⟩ := hk e he
              exact l06Step_any na N nc (p.nodes.length - 1) w.heap.size p.nodes HN (by have := HN.out; omega) HDD n (by omega) hs 1 W' (by omega) (by omega) (Nat.le_trans hW.size hW'.size) ((HR.out.1.keep hW).keep (hW'.mono hW.size))
          by_cases hrz : res = 0
          · have hrt : ret = -1 := HFS.out.none hrz
            subst hrz hrt
            have HE : Hid (S2 ++ ⟨#[41]⟩ ++ ⟨#[32, 123, 10]⟩ ++ Q ++ ⟨#[125, 10]⟩ = txt (prgTo p (t + 1))) := by
              refine eq_txt ?_
              rw [HS2.out, ← hQ.out]
              simp only [ByteArray.data_append, Array.toList_append, txt_list, prgTo, HQ.out, fnT, resL, retL, HP.out]
              simp
            go_wp2_with (go_at_call 29; refine Calls.mono (cB.out _ HW2.out.2.below) ?_; rintro e wB ⟨rfl, hbB⟩; have DB := HW2.out.2.next hbB; have y4 := (hbB.cell (p := ⟨y, 4, none⟩) hyw).trans y4a; have p0 : wB.cell? ⟨w.heap.size, 0, none⟩ = some (.slice na N nc) := DB.cell 0)
            go_roundw
            case rel => exact ⟨t + 1, _, by omega, by go_num, rfl, HE, DB⟩
            case measure => simp [intOf]; omega
          · have hrs : 0 ≤ ret ∧ ret < (p.nodes.length : Int) ∧ isVal (p.nodes.getD ret.toNat nd0).kind = true := HFS.out.some hrz
            obtain ⟨rn, rfl⟩ : ∃ rn : Nat, ret = (rn : Int) := ⟨ret.toNat, by omega⟩
            rw [Int.toNat_natCast] at hrs
            have hr0 : (0 : Int) ≤ (rn : Int) := by omega
            have hrne : (res == 0) = false := by simpa using hrz
            obtain ⟨V, hV⟩ : ∃ V, Hid (txt (valL p.nodes (rn : Int)) = V) := ⟨_, (rfl : txt (valL p.nodes (rn : Int)) = txt (valL p.nodes (rn : Int)))⟩
            have hVs : V.size ≤ 30000000 := by rw [← hV.out, txt_size]; exact val_len hml HDD.out (by omega) hrs.2.2
            have cV : Hid (∀ W, Below w.heap.size w W → Calls Tryz.prog 30 #[.slice na N nc, .int .i64 (rn : Int)] W fun e w' => e = .returned (.string V) ∧ Below W.heap.size W w') := fun W hW => by
              rw [← hV.out]
              exact l06Value_any na N nc (p.nodes.length - 1) w.heap.size p.nodes HN (by have := HN.out; omega) HDD rn (by omega) hrs.2.2 W hW.size (HR.out.1.keep hW)
            obtain ⟨Y, hY⟩ : ∃ Y, Hid (txt (tyL res) = Y) := ⟨_, (rfl : txt (tyL res) = txt (tyL res))⟩
            have hYs : Y.size ≤ 8 := by rw [← hY.out, txt_size]; exact tyL_len res
            have cT : Hid (∀ W, Calls Tryz.prog 28 #[.int .i64 res] W fun e w' => e = .returned (.string Y) ∧ w' = W) := fun W => by rw [← hY.out]; exact l06Type_any res W
            have HE : Hid (S2 ++ ⟨#[41]⟩ ++ ⟨#[32, 45, 62, 32]⟩ ++ Y ++ ⟨#[32, 123, 10]⟩ ++ Q ++ ⟨#[32, 32, 114, 101, 116, 32]⟩ ++ V ++ ⟨#[59, 10]⟩ ++ ⟨#[125, 10]⟩ = txt (prgTo p (t + 1))) := by
              refine eq_txt ?_
              rw [HS2.out, ← hQ.out, ← hY.out, ← hV.out]
              simp only [ByteArray.data_append, Array.toList_append, txt_list, prgTo, HQ.out, fnT, resL, retL, HP.out, if_neg hrz, if_pos hr0]
              simp
            go_wp2_with (first | (go_at_call 28; refine Calls.mono (cT.out _) ?_; rintro e wT ⟨rfl, hwT⟩; have hwT2 := hwT.symm; subst hwT2) | (go_at_call 29; refine Calls.mono (cB.out _ HW2.out.2.below) ?_; rintro e wB ⟨rfl, hbB⟩; have DB := HW2.out.2.next hbB; have y4 := (hbB.cell (p := ⟨y, 4, none⟩) hyw).trans y4a; have p0 : wB.cell? ⟨w.heap.size, 0, none⟩ = some (.slice na N nc) := DB.cell 0) | (go_at_call 30; refine Calls.mono (cV.out _ DB.below) ?_; rintro e wV ⟨rfl, hbV⟩; have DV := DB.next hbV))
            go_roundw
            case rel => exact ⟨t + 1, _, by omega, by go_num, rfl, HE, DV⟩
            case measure => simp [intOf]; omega
    · have htF : t = F := by omega
      have HAll : Hid (prgTo p p.fns.length = prgTo p t) := by show _ = _; rw [HF.out, htF]
      clear htF
      by_cases hbig : 3000 < S.size
      · have hb3 : (3000 : Int) < (S.size : Int) := by omega
        have HE : Hid ((L, ok) = (([] : List UInt8), false)) := by
          show _ = _
          rw [← hL.out]
          unfold showPrg
          rw [if_pos HPK.out, HAll.out, if_pos (by rw [HS.out, txt_size] at hbig; exact hbig)]
        cases HE.out
        go_wp2
        go_ret2
        exact ⟨rfl, HW.out.below⟩
      · have hb3 : ¬ (3000 : Int) < (S.size : Int) := by omega
        have HE : Hid ((L, ok) = (prgTo p t, true)) := by
          show _ = _
          rw [← hL.out]
          unfold showPrg
          rw [if_pos HPK.out, HAll.out, if_neg (by rw [HS.out, txt_size] at hbig; exact hbig)]
        have HST : Hid (txt (prgTo p t) = S) := HS.out.symm
        cases HE.out
        go_wp2
        go_ret2
        exact ⟨by rw [HST.out]; rfl, HW.out.below⟩

end Go.Proofs.YtbanmldmdoedkaaGreatDoor
