/-
  ShowProgram, in the program: a function is written as the model says it; where the texts of types and the powers of ten lie as their texts lay them.
-/
import Derived.Test.YtbanmldmdoedkaaGreatDoorShPX
import Derived.Test.YtbanmldmdoedkaaGreatDoorRa
namespace Go.Proofs.YtbanmldmdoedkaaGreatDoor
open Go.RowKit

/-- The texts of types. -/
def types5 : List ByteArray := [⟨#[]⟩, ⟨#[105, 110, 116]⟩, ⟨#[98, 111, 120]⟩, ⟨#[38, 98, 111, 120]⟩, ⟨#[38, 109, 117, 116, 32, 98, 111, 120]⟩]
/-- .. lie as the program's text lays them. -/
def TypesOk (w : World) : Prop := ∀ i, i < 5 → w.cell? ⟨0, i, none⟩ = some (.string (types5.getD i ByteArray.empty))
theorem TypesOk.below {w w1 : World} (h : TypesOk w) (hb : Below w.heap.size w w1) : TypesOk w1 := fun i hi =>
  (hb.cell (p := ⟨0, i, none⟩) (World.block_lt_of_cell? w _ (h i hi))).trans (h i hi)
def DoorS (w : World) : Prop := Tab10 w ∧ TypesOk w
theorem DoorS.below {w w1 : World} (h : DoorS w) (hb : Below w.heap.size w w1) : DoorS w1 := ⟨h.1.below hb, h.2.below hb⟩
theorem types5_tyL (t : Nat) (h1 : 1 ≤ t) (h4 : t ≤ 4) : (types5.getD t ByteArray.empty).data.toList = tyL (t : Int) := by
  have : t = 1 ∨ t = 2 ∨ t = 3 ∨ t = 4 := by omega
  rcases this with rfl | rfl | rfl | rfl <;> rfl
theorem fn_types {p : Pg} (h : programOk p = true) {i : Nat} (hi : i < p.fns.length) : (∀ q ∈ (p.fns.getD i fc0).params, 1 ≤ q.ty ∧ q.ty ≤ 4) ∧ 0 ≤ (p.fns.getD i fc0).res ∧ (p.fns.getD i fc0).res ≤ 2 := by
  unfold programOk at h
  simp only [Bool.and_eq_true] at h
  have h1 := fnsTo_at h.1.2 i hi
  show (∀ q ∈ (p.fns.getD i ⟨ByteArray.empty, [], 0, 0, 0⟩).params, 1 ≤ q.ty ∧ q.ty ≤ 4) ∧ 0 ≤ (p.fns.getD i ⟨ByteArray.empty, [], 0, 0, 0⟩).res ∧ (p.fns.getD i ⟨ByteArray.empty, [], 0, 0, 0⟩).res ≤ 2
  generalize p.fns.getD i ⟨ByteArray.empty, [], 0, 0, 0⟩ = f at h1 ⊢
  unfold fnOk endsOkB at h1
  simp only [Bool.and_eq_true, decide_eq_true_eq] at h1
  obtain ⟨⟨⟨a1, _⟩, a3, a4⟩, ⟨a5, a6⟩, a7⟩ := h1
  refine ⟨fun q hq => ?_, ?_⟩
  · have := List.all_eq_true.mp a4 q hq
    unfold pmOk at this
    simp only [Bool.and_eq_true] at this
    simpa [isIn] using this.2
  · split at a7
    · omega
    · split at a7
      · omega
      · cases a7

theorem Stand.trans {w0 a a' : World} {b : Nat} {nv : Value} {L L' : List UInt8} {W : World} (h : Stand w0 a b nv L a') (h' : Stand w0 a' b nv L' W) : Stand w0 a b nv L' W := ⟨h'.1, h.2.1.trans h'.2.1, h.2.2.trans h'.2.2⟩
/-- Texts written at once, in a statement whose order is drawn. -/
theorem Stand.textsD {w0 a : World} {b : Nat} {nv : Value} {L : List UInt8} {W : World} (ha : w0.heap.size ≤ a.heap.size) (h : Stand w0 a b nv L W) (ss : List ByteArray) (n : Nat) (hn : ss.length = n) (h8 : n ≤ 8) (hl : L.length + (catL ss).length ≤ 100000000000000) {g : Nat} (hg : W.heap.size = g) :
    Calls Tryz.prog 99 #[.pointer (some ⟨b, 0, none⟩), .slice (some ⟨g, 0, none⟩) n n] (W.alloc (.cells (ss.map Value.string).toArray 9)).drew fun e w' => e = .returned (.tuple #[]) ∧ Stand w0 a b nv (L ++ catL ss) w' := by
  subst hg
  have hs := (h.alloc ha (.cells (ss.map Value.string).toArray 9)).drew ha
  refine (lwWrite_any w0.heap.size b W.heap.size nv L ss n _ hs.1 hn (heap_alloc_new _ _) h8 hl (Nat.le_trans ha hs.2.1.size)).mono ?_
  rintro e w' ⟨rfl, h1, h2, h3⟩
  exact ⟨rfl, h1, hs.2.1.trans h2, hs.2.2.trans h3⟩
theorem catL3 (x : ByteArray) (y : ByteArray) (L : List UInt8) (h : y.data.toList = L) : catL [x, ⟨#[58, 32]⟩, y] = x.data.toList ++ [58, 32] ++ L := by
  subst h
  simp [catL]

set_option maxRecDepth 100000 in
set_option maxHeartbeats 6400000 in
theorem lwFn_of (va pa : Option Addr) (N nc m b P pc : Nat) (ns : List Nd) (w0 : World) (nv : Value) (HNV : Hid (nv = .slice va N nc)) (HN : Hid (ns.length = N)) (hN9 : N < 1000000000) (hm : m < N) (hmN : m + 1 = N) (HD : Hid (deepOf ns (m : Int) ≠ 0)) (HR : Hid (NdR.Row w0 w0.heap.size (.slice va N nc) ns)) (HT : Hid (DoorS w0))
    (fn : ByteArray) (fp : List Pm) (res body ret : Int) (HP : Hid (fp.length = P)) (HPR : Hid (PmR.Row w0 w0.heap.size (.slice pa P pc) fp)) (HFS : Hid (FnFacts ns ⟨fn, fp, res, body, ret⟩)) (HTY : Hid ((∀ q ∈ fp, 1 ≤ q.ty ∧ q.ty ≤ 4) ∧ 0 ≤ res ∧ res ≤ 2)) :
    Writes Tryz.prog 61 #[.pointer (some ⟨b, 0, none⟩), .agg #[.string fn, .slice pa P pc, .int .i64 res, .int .i64 body, .int .i64 ret]] w0 b nv (fnT ns ⟨fn, fp, res, body, ret⟩) := by
  intro l w hB0 hlw hlen
  have hz : w0.heap.size ≤ w.heap.size := hB0.size
  have HA : Hid (Laid w0 w b nv l #[.string fn, .slice pa P pc, .int .i64 res, .int .i64 body, .int .i64 ret] 55 (w.alloc (.cells #[.string fn, .slice pa P pc, .int .i64 res, .int .i64 body, .int .i64 ret] 55))) := Laid.make hB0 hlw _ _
  obtain ⟨R, HRR⟩ : ∃ R, Hid (fnT ns ⟨fn, fp, res, body, ret⟩ = R) := ⟨_, (rfl : fnT ns ⟨fn, fp, res, body, ret⟩ = _)⟩
  rw [HRR.out] at hlen ⊢
  have HZ : Hid (l.length + R.length ≤ 100000000000000) := hlen
  have hP3 : P ≤ 3 := by rw [← HP.out]; exact HFS.out.few
  have hbd : 0 ≤ body ∧ body < (ns.length : Int) ∧ (ns.getD body.toNat nd0).kind = 20 := HFS.out.body
  have hml : m < ns.length := by rw [HN.out]; exact hm
  obtain ⟨bn, rfl⟩ : ∃ bn : Nat, body = (bn : Int) := ⟨body.toNat, by omega⟩
  rw [Int.toNat_natCast] at hbd
  have hbm : bn ≤ m := by have := HN.out; omega
  obtain ⟨Q, hQ⟩ : ∃ Q, Hid (blkL ns (stepL ns) (bn : Int) 1 = Q) := ⟨_, (rfl : blkL ns (stepL ns) (bn : Int) 1 = _)⟩
  have cS : Hid (Writes Tryz.prog 106 #[.pointer (some ⟨b, 0, none⟩), .int .i64 (bn : Int), .int .i64 1] w0 b nv Q) := by
    rw [← hQ.out]
    obtain ⟨h12, hk⟩ := body_kids hml HD.out hbm hbd.2.2
    exact lwSteps_of va N nc b bn 1 ns w0 nv HNV HN (by omega) HR h12 (fun e he => by
      obtain ⟨n, rfl, hn, hs⟩ := hk e he
      exact lwStep_any va N nc m b ns w0 nv HNV HN hN9 hm HD HR HT.out.1 n (by omega) hs 1 (by omega))
  have cB : Hid (Writes Tryz.prog 107 #[.pointer (some ⟨b, 0, none⟩), .int .i64 1] w0 b nv (blk2 1)) := lwBegin_of nv b 1 w0 (by omega)
  have cZ : Hid (Writes Tryz.prog 108 #[.pointer (some ⟨b, 0, none⟩), .int .i64 0, .string ⟨#[125]⟩] w0 b nv [125, 10]) := lwLine_of nv b 0 w0 (by omega) ⟨#[125]⟩
  -- the pieces of the text
  obtain ⟨T, hT⟩ : ∃ T, Hid ([102, 110, 32] ++ fn.data.toList ++ [40] = T) := ⟨_, (rfl : [102, 110, 32] ++ fn.data.toList ++ [40] = _)⟩
  have HC : Hid (catL [⟨#[102, 110, 32]⟩, fn, ⟨#[40]⟩] = T) := by rw [← hT.out]; simp [catL, Hid]
  obtain ⟨Y, hY⟩ : ∃ Y, Hid (resL ⟨fn, fp, res, (bn : Int), ret⟩ = Y) := ⟨_, (rfl : resL ⟨fn, fp, res, (bn : Int), ret⟩ = _)⟩
  obtain ⟨X, hX⟩ : ∃ X, Hid (retL ns ⟨fn, fp, res, (bn : Int), ret⟩ = X) := ⟨_, (rfl : retL ns ⟨fn, fp, res, (bn : Int), ret⟩ = _)⟩
  have HF : Hid (l ++ T ++ parTo fp P ++ [41] ++ Y ++ [32, 123, 10] ++ Q ++ X ++ [125, 10] = l ++ R) := by
    show _ = _
    rw [← HRR.out]
    unfold fnT
    simp only [hT.out, hY.out, hX.out, hQ.out, HP.out, List.append_assoc]
  have HY2 : Hid (l.length + T.length + (parTo fp P).length + 1 + Y.length + 3 + Q.length + X.length + 2 ≤ 100000000000000) := by
    have h1 := congrArg List.length HF.out
    have h2 := HZ.out
    simp only [List.length_append, List.length_cons, List.length_nil] at h1 h2
    show _ ≤ _
    omega
  clear hlen hlw hB0 HRR
  go_enter Tryz.func61, Tryz.ntmps61
  go_wp2_with fail
  go_at_call 99
  refine Calls.mono (HA.out.stand.texts HA.out.size [⟨#[102, 110, 32]⟩, fn, ⟨#[40]⟩] 3 rfl (by omega) (by rw [HC.out]; have := HY2.out; omega) (by simp)) ?_
  rintro e w1 ⟨rfl, s1⟩
  rw [HC.out] at s1
  have S1 : Hid (Stand w0 (w.alloc (.cells #[.string fn, .slice pa P pc, .int .i64 res, .int .i64 (bn : Int), .int .i64 ret] 55)) b nv (l ++ T ++ parTo fp 0) w1) := by show Stand _ _ _ _ _ _; simp only [parTo, List.append_nil]; exact s1
  have y1 : w1.cell? ⟨w.heap.size, 1, none⟩ = some (.slice pa P pc) := s1.cell HA.out.cell (by decide) (by decide) 1
  clear s1
  generalize w.alloc (.cells #[.string fn, .slice pa P pc, .int .i64 res, .int .i64 (bn : Int), .int .i64 ret] 55) = a at HA S1
  go_wp2
  go_loopw [14] (fun j wr => ∃ u : Nat, u ≤ P ∧ j = .int .i64 (u : Int) ∧ Hid (Stand w0 a b nv (l ++ T ++ parTo fp u) wr)) (fun j _ => P - (intOf j).toNat)
  case atStart => exact ⟨0, Nat.zero_le _, rfl, S1⟩
  case round =>
    obtain ⟨u, hu, rfl, HS⟩ := hrel
    clear y1 S1
    by_cases hlt : u < P
    · have hu0 : (0 : Int) ≤ (u : Int) := by omega
      have hu1 : (u : Int) < (P : Int) := by omega
      have hupl : u < fp.length := by rw [HP.out]; exact hlt
      obtain ⟨pb, po, rfl, hpb, f0, f1⟩ := PmR.at HPR.out u hupl
      obtain ⟨x, hx⟩ : ∃ x, Hid (fp[u] = x) := ⟨_, (rfl : fp[u] = _)⟩
      have hxt : 1 ≤ x.ty ∧ x.ty ≤ 4 := by rw [← hx.out]; exact HTY.out.1 _ (List.getElem_mem hupl)
      rw [hx.out] at f0 f1
      have g0 := ((HA.out.base.trans HS.out.2.1).cell (p := ⟨pb, po + u * 2, none⟩) hpb).trans f0
      have g1 := ((HA.out.base.trans HS.out.2.1).cell (p := ⟨pb, po + u * 2 + 1, none⟩) hpb).trans f1
      obtain ⟨xn, xt⟩ := x
      simp only at g0 g1 hxt
      obtain ⟨tn, rfl⟩ : ∃ tn : Nat, xt = (tn : Int) := ⟨xt.toNat, by omega⟩
      have htn0 : (0 : Int) ≤ (tn : Int) := by omega
      have htn1 : (tn : Int) < 5 := by omega
      obtain ⟨tt, htt⟩ : ∃ tt, Hid (types5.getD tn ByteArray.empty = tt) := ⟨_, (rfl : types5.getD tn ByteArray.empty = _)⟩
      have HTT : Hid (tt.data.toList = tyL (tn : Int)) := by rw [← htt.out]; exact types5_tyL tn (by omega) (by omega)
      have HLY : Hid (Laid w0 wr b nv (l ++ T ++ parTo fp u) #[.string xn, .int .i64 (tn : Int)] 57 (wr.alloc (.cells #[.string xn, .int .i64 (tn : Int)] 57))) := Laid.make (HA.out.base.trans HS.out.2.1) HS.out.1 _ _
      have HUP : Hid (Stand w0 a b nv (l ++ T ++ parTo fp u) (wr.alloc (.cells #[.string xn, .int .i64 (tn : Int)] 57))) := HS.out.alloc HA.out.size _
      have HST : Hid (∀ L W, Stand w0 (wr.alloc (.cells #[.string xn, .int .i64 (tn : Int)] 57)) b nv L W → W.cell? ⟨wr.heap.size, 0, none⟩ = some (.string xn) ∧ W.cell? ⟨wr.heap.size, 1, none⟩ = some (.int .i64 (tn : Int)) ∧ W.cell? ⟨0, tn, none⟩ = some (.string tt)) := fun L W h =>
        ⟨h.cell HLY.out.cell (by decide) (by decide) 0, h.cell HLY.out.cell (by decide) (by decide) 1, by rw [← htt.out]; exact (HT.out.2.below (HLY.out.base.trans h.2.1)) tn (by omega)⟩
      clear f0 f1
      by_cases huz : u = 0
      · subst huz
        have HE2 : Hid (l ++ T ++ parTo fp (0 + 1) = l ++ T ++ parTo fp 0 ++ catL [xn, ⟨#[58, 32]⟩, tt]) := by
          show _ = _
          rw [catL3 xn tt _ HTT.out]
          simp only [parTo, pm_getD hupl, hx.out, if_true, List.append_nil, List.nil_append, List.append_assoc]
        have HZ2 : Hid ((l ++ T ++ parTo fp 0).length + (catL [xn, ⟨#[58, 32]⟩, tt]).length ≤ 100000000000000) := by
          show _ ≤ _
          have h1 := congrArg List.length HE2.out
          have h2 := parTo_mono fp (0 + 1) P (by omega)
          have h3 := HY2.out
          simp only [List.length_append] at h1 h3 ⊢
          omega
        simp only [Nat.zero_mul, Nat.add_zero] at g0 g1
        have hu3 : (0 : Int) < (P : Int) := by omega
        have h38 : 3 ≤ 8 := by omega
        go_wp2_with fail
        generalize wr.alloc (.cells #[.string xn, .int .i64 (tn : Int)] 57) = a' at HLY HUP HST ⊢
        have hyw : wr.heap.size < a'.heap.size := (Array.getElem?_eq_some_iff.1 HLY.out.cell).1
        generalize wr.heap.size = y at HLY HST hyw ⊢
        have D0 : Hid (Stand w0 a' b nv (l ++ T ++ parTo fp 0) a'.drew) := HLY.out.stand.drew HLY.out.size
        have D1 : Hid (Stand w0 a' b nv (l ++ T ++ parTo fp 0) (a'.alloc (.cells #[.string xn, .string ⟨#[58, 32]⟩, .string tt] 9)).drew) := (HLY.out.stand.alloc HLY.out.size _).drew HLY.out.size
        have cW : Hid (Calls Tryz.prog 99 #[.pointer (some ⟨b, 0, none⟩), .slice (some ⟨a'.heap.size, 0, none⟩) 3 3] (a'.alloc (.cells #[.string xn, .string ⟨#[58, 32]⟩, .string tt] 9)).drew fun e w' => e = .returned (.tuple #[]) ∧ Stand w0 a' b nv (l ++ T ++ parTo fp 0 ++ catL [xn, ⟨#[58, 32]⟩, tt]) w') := HLY.out.stand.textsD HLY.out.size [xn, ⟨#[58, 32]⟩, tt] 3 rfl h38 HZ2.out rfl
        go_region_held3 (fun W => W.cell? ⟨y, 0, none⟩ = some (.string xn) ∧ W.cell? ⟨y, 1, none⟩ = some (.int .i64 (tn : Int)) ∧ W.cell? ⟨0, tn, none⟩ = some (.string tt)) (first | exact HST.out _ _ s9 | exact HST.out _ _ D1.out | exact HST.out _ _ D0.out) ((go_at_call 99; refine Calls.mono cW.out ?_; rintro e w9 ⟨rfl, s9⟩))
        all_goals
          have S9 : Hid (Stand w0 a b nv (l ++ T ++ parTo fp (0 + 1)) w9) := by rw [HE2.out]; exact HUP.out.trans s9
          clear s9
          go_wp2
          go_roundw
          case rel => exact ⟨0 + 1, by omega, by go_num, S9⟩
          case measure => simp [intOf]; omega
      · have hup : (0 : Int) < (u : Int) := by omega
        have HE2 : Hid (l ++ T ++ parTo fp (u + 1) = l ++ T ++ parTo fp u ++ [44, 32] ++ catL [xn, ⟨#[58, 32]⟩, tt]) := by
          show _ = _
          rw [catL3 xn tt _ HTT.out]
          simp only [parTo, pm_getD hupl, hx.out, if_neg huz, List.append_assoc]
        have HZ2 : Hid ((l ++ T ++ parTo fp u).length + ([44, 32] : List UInt8).length ≤ 100000000000000 ∧ (l ++ T ++ parTo fp u ++ [44, 32]).length + (catL [xn, ⟨#[58, 32]⟩, tt]).length ≤ 100000000000000) := by
          show _ ∧ _
          have h1 := congrArg List.length HE2.out
          have h2 := parTo_mono fp (u + 1) P (by omega)
          have h3 := HY2.out
          simp only [List.length_append] at h1 h3 ⊢
          omega
        have h38 : 3 ≤ 8 := by omega
        go_wp2_with fail
        go_at_call 99
        refine Calls.mono (HLY.out.stand.texts HLY.out.size [⟨#[44, 32]⟩] 1 rfl (by omega) HZ2.out.1 (by simp)) ?_
        rintro e w5 ⟨rfl, s5⟩
        generalize wr.alloc (.cells #[.string xn, .int .i64 (tn : Int)] 57) = a' at HLY HUP HST s5
        have S5 : Hid (Stand w0 a' b nv (l ++ T ++ parTo fp u ++ [44, 32]) w5) := s5
        clear s5
        generalize wr.heap.size = y at HLY HST ⊢
        have D0 : Hid (Stand w0 a' b nv (l ++ T ++ parTo fp u ++ [44, 32]) w5.drew) := S5.out.drew HLY.out.size
        have D1 : Hid (Stand w0 a' b nv (l ++ T ++ parTo fp u ++ [44, 32]) (w5.alloc (.cells #[.string xn, .string ⟨#[58, 32]⟩, .string tt] 9)).drew) := (S5.out.alloc HLY.out.size _).drew HLY.out.size
        have cW : Hid (Calls Tryz.prog 99 #[.pointer (some ⟨b, 0, none⟩), .slice (some ⟨w5.heap.size, 0, none⟩) 3 3] (w5.alloc (.cells #[.string xn, .string ⟨#[58, 32]⟩, .string tt] 9)).drew fun e w' => e = .returned (.tuple #[]) ∧ Stand w0 a' b nv (l ++ T ++ parTo fp u ++ [44, 32] ++ catL [xn, ⟨#[58, 32]⟩, tt]) w') := S5.out.textsD HLY.out.size [xn, ⟨#[58, 32]⟩, tt] 3 rfl h38 HZ2.out.2 rfl
        go_wp2_with fail
        go_region_held3 (fun W => W.cell? ⟨y, 0, none⟩ = some (.string xn) ∧ W.cell? ⟨y, 1, none⟩ = some (.int .i64 (tn : Int)) ∧ W.cell? ⟨0, tn, none⟩ = some (.string tt)) (first | exact HST.out _ _ s9 | exact HST.out _ _ D1.out | exact HST.out _ _ D0.out) ((go_at_call 99; refine Calls.mono cW.out ?_; rintro e w9 ⟨rfl, s9⟩))
        all_goals
          have S9 : Hid (Stand w0 a b nv (l ++ T ++ parTo fp (u + 1)) w9) := by rw [HE2.out]; exact HUP.out.trans s9
          clear s9
          go_wp2
          go_roundw
          case rel => exact ⟨u + 1, by omega, by go_num, S9⟩
          case measure => simp [intOf]; omega
    · have huP : u = P := by omega
      subst huP
      have HZ3 : Hid ((l ++ T ++ parTo fp u).length + ([41] : List UInt8).length ≤ 100000000000000) := by
        have h3 := HY2.out
        show _ ≤ _
        simp only [List.length_append, List.length_cons, List.length_nil] at h3 ⊢
        omega
      have HC4 : Hid (∀ L W, Stand w0 a b nv L W → (W.cell? ⟨w.heap.size, 2, none⟩ = some (.int .i64 res) ∧ W.cell? ⟨w.heap.size, 3, none⟩ = some (.int .i64 (bn : Int))) ∧ W.cell? ⟨w.heap.size, 4, none⟩ = some (.int .i64 ret)) := fun L W h => ⟨⟨h.cell HA.out.cell (by decide) (by decide) 2, h.cell HA.out.cell (by decide) (by decide) 3⟩, h.cell HA.out.cell (by decide) (by decide) 4⟩
      go_wp2_with fail
      go_at_call 99
      refine Calls.mono (HS.out.texts HA.out.size [⟨#[41]⟩] 1 rfl (by omega) HZ3.out rfl) ?_
      rintro e w2 ⟨rfl, s2⟩
      have S2 : Hid (Stand w0 a b nv (l ++ T ++ parTo fp u ++ [41]) w2) := s2
      obtain ⟨⟨c2, _⟩, _⟩ := HC4.out _ _ s2
      clear s2
      by_cases hrz : res = 0
      · have hrt : ret = -1 := HFS.out.none hrz
        subst hrz hrt
        have HY0 : Hid (Y = []) := by rw [← hY.out]; exact rfl
        have HX0 : Hid (X = []) := by rw [← hX.out]; exact rfl
        rw [HY0.out, HX0.out] at HF HY2
        have HF2 : Hid (l ++ T ++ parTo fp u ++ [41] ++ [32, 123, 10] ++ Q ++ [125, 10] = l ++ R) := by show _ = _; rw [← HF.out]; simp only [List.append_nil]
        have HZ4 : Hid ((l ++ T ++ parTo fp u ++ [41]).length + ([32, 123, 10] : List UInt8).length ≤ 100000000000000 ∧ (l ++ T ++ parTo fp u ++ [41] ++ [32, 123, 10]).length + Q.length ≤ 100000000000000 ∧ (l ++ T ++ parTo fp u ++ [41] ++ [32, 123, 10] ++ Q).length + ([125, 10] : List UInt8).length ≤ 100000000000000) := by
          have h3 := HY2.out
          show _ ∧ _
          simp only [List.length_append, List.length_cons, List.length_nil] at h3 ⊢
          omega
        go_wp2_with fail
        go_at_call 99
        refine Calls.mono (S2.out.texts HA.out.size [⟨#[32, 123, 10]⟩] 1 rfl (by omega) HZ4.out.1 rfl) ?_
        rintro e w3 ⟨rfl, s3⟩
        have S3 : Hid (Stand w0 a b nv (l ++ T ++ parTo fp u ++ [41] ++ [32, 123, 10]) w3) := s3
        obtain ⟨⟨_, c3⟩, _⟩ := HC4.out _ _ s3
        clear s3 c2
        go_wp2_with fail
        go_at_call 106
        refine Calls.mono (S3.out.call HA.out.base cS.out HZ4.out.2.1) ?_
        rintro e w4 ⟨rfl, s4⟩
        have S4 : Hid (Stand w0 a b nv (l ++ T ++ parTo fp u ++ [41] ++ [32, 123, 10] ++ Q) w4) := s4
        obtain ⟨_, c4⟩ := HC4.out _ _ s4
        clear s4 c3
        go_wp2_with fail
        go_at_call 108
        refine Calls.mono (S4.out.call HA.out.base cZ.out HZ4.out.2.2) ?_
        rintro e w5 ⟨rfl, s5⟩
        have S5 : Hid (Wrote w0.heap.size b nv (l ++ R) w (.returned (.tuple #[])) w5) := by rw [← HF2.out]; exact s5.wrote hz HA.out.up
        clear s5
        go_wp2
        go_returns
        exact S5.out
      · have hrs : 0 ≤ ret ∧ ret < (ns.length : Int) ∧ isVal (ns.getD ret.toNat nd0).kind = true := HFS.out.some hrz
        obtain ⟨rn, rfl⟩ : ∃ rn : Nat, ret = (rn : Int) := ⟨ret.toNat, by omega⟩
        rw [Int.toNat_natCast] at hrs
        have hr0 : (0 : Int) ≤ (rn : Int) := by omega
        have hrr := HTY.out.2
        obtain ⟨tn, rfl⟩ : ∃ tn : Nat, res = (tn : Int) := ⟨res.toNat, by omega⟩
        have htn0 : (0 : Int) ≤ (tn : Int) := by omega
        have htn1 : (tn : Int) < 5 := by omega
        have hrne : ((tn : Int) == 0) = false := by simpa using hrz
        obtain ⟨tt, htt⟩ : ∃ tt, Hid (types5.getD tn ByteArray.empty = tt) := ⟨_, (rfl : types5.getD tn ByteArray.empty = _)⟩
        have HTT : Hid (tt.data.toList = tyL (tn : Int)) := by rw [← htt.out]; exact types5_tyL tn (by omega) (by omega)
        obtain ⟨V, hV⟩ : ∃ V, Hid (valL ns (rn : Int) = V) := ⟨_, (rfl : valL ns (rn : Int) = _)⟩
        have cV : Hid (Writes Tryz.prog 57 #[.pointer (some ⟨b, 0, none⟩), .int .i64 (rn : Int)] w0 b nv V) := by
          rw [← hV.out]
          exact lwValue_any va N nc m b ns w0 nv HNV HN hm HD HR HT.out.1 rn (by have := HN.out; omega) hrs.2.2
        have HY0 : Hid (Y = catL [⟨#[32, 45, 62, 32]⟩, tt]) := by
          show _ = _
          rw [← hY.out]
          unfold resL
          simp only [if_neg hrz]
          rw [← HTT.out]
          simp [catL]
        have HX0 : Hid (X = blk2 1 ++ [114, 101, 116, 32] ++ V ++ [59, 10]) := by
          show _ = _
          rw [← hX.out]
          unfold retL
          simp only [if_pos hr0]
          rw [hV.out]
          rfl
        rw [HY0.out, HX0.out] at HF HY2
        obtain ⟨l2, hl2⟩ : ∃ l2, Hid (l ++ T ++ parTo fp u ++ [41] ++ catL [⟨#[32, 45, 62, 32]⟩, tt] = l2) := ⟨_, (rfl : l ++ T ++ parTo fp u ++ [41] ++ catL [⟨#[32, 45, 62, 32]⟩, tt] = _)⟩
        have HF2 : Hid (l2 ++ [32, 123, 10] ++ Q ++ blk2 1 ++ [114, 101, 116, 32] ++ V ++ [59, 10] ++ [125, 10] = l ++ R) := by show _ = _; rw [← HF.out, ← hl2.out]; simp only [List.append_assoc]
        have HZ4 : Hid ((l ++ T ++ parTo fp u ++ [41]).length + (catL [⟨#[32, 45, 62, 32]⟩, tt]).length ≤ 100000000000000 ∧ l2.length + 3 + Q.length + (blk2 1).length + 4 + V.length + 2 + 2 ≤ 100000000000000) := by
          have h3 := HY2.out
          have h4 := congrArg List.length hl2.out
          show _ ∧ _
          simp only [List.length_append, List.length_cons, List.length_nil] at h3 h4 ⊢
          omega
        have c9 : w2.cell? ⟨0, tn, none⟩ = some (.string tt) := by rw [← htt.out]; exact (HT.out.2.below (HA.out.base.trans S2.out.2.1)) tn (by omega)
        have HZ5 : Hid (l2.length + ([32, 123, 10] : List UInt8).length ≤ 100000000000000 ∧ (l2 ++ [32, 123, 10]).length + Q.length ≤ 100000000000000 ∧ (l2 ++ [32, 123, 10] ++ Q).length + (blk2 1).length ≤ 100000000000000 ∧ (l2 ++ [32, 123, 10] ++ Q ++ blk2 1).length + ([114, 101, 116, 32] : List UInt8).length ≤ 100000000000000 ∧ (l2 ++ [32, 123, 10] ++ Q ++ blk2 1 ++ [114, 101, 116, 32]).length + V.length ≤ 100000000000000 ∧ (l2 ++ [32, 123, 10] ++ Q ++ blk2 1 ++ [114, 101, 116, 32] ++ V).length + ([59, 10] : List UInt8).length ≤ 100000000000000 ∧ (l2 ++ [32, 123, 10] ++ Q ++ blk2 1 ++ [114, 101, 116, 32] ++ V ++ [59, 10]).length + ([125, 10] : List UInt8).length ≤ 100000000000000) := by
          have h3 := HZ4.out.2
          show _ ∧ _
          simp only [List.length_append, List.length_cons, List.length_nil]
          omega
        go_wp2_with fail
        go_at_call 99
        refine Calls.mono (S2.out.texts HA.out.size [⟨#[32, 45, 62, 32]⟩, tt] 2 rfl (by omega) HZ4.out.1 rfl) ?_
        rintro e w3 ⟨rfl, s3⟩
        have S3 : Hid (Stand w0 a b nv l2 w3) := by rw [← hl2.out]; exact s3
        clear s3 c2 c9
        go_wp2_with fail
        go_at_call 99
        refine Calls.mono (S3.out.texts HA.out.size [⟨#[32, 123, 10]⟩] 1 rfl (by omega) HZ5.out.1 rfl) ?_
        rintro e w4 ⟨rfl, s4⟩
        have S4 : Hid (Stand w0 a b nv (l2 ++ [32, 123, 10]) w4) := s4
        obtain ⟨⟨_, c3⟩, _⟩ := HC4.out _ _ s4
        clear s4
        go_wp2_with fail
        go_at_call 106
        refine Calls.mono (S4.out.call HA.out.base cS.out HZ5.out.2.1) ?_
        rintro e w5 ⟨rfl, s5⟩
        have S5 : Hid (Stand w0 a b nv (l2 ++ [32, 123, 10] ++ Q) w5) := s5
        obtain ⟨_, c4⟩ := HC4.out _ _ s5
        clear s5 c3
        go_wp2_with fail
        go_at_call 107
        refine Calls.mono (S5.out.call HA.out.base cB.out HZ5.out.2.2.1) ?_
        rintro e w6 ⟨rfl, s6⟩
        have S6 : Hid (Stand w0 a b nv (l2 ++ [32, 123, 10] ++ Q ++ blk2 1) w6) := s6
        clear s6 c4
        go_wp2_with fail
        go_at_call 99
        refine Calls.mono (S6.out.texts HA.out.size [⟨#[114, 101, 116, 32]⟩] 1 rfl (by omega) HZ5.out.2.2.2.1 rfl) ?_
        rintro e w7 ⟨rfl, s7⟩
        have S7 : Hid (Stand w0 a b nv (l2 ++ [32, 123, 10] ++ Q ++ blk2 1 ++ [114, 101, 116, 32]) w7) := s7
        obtain ⟨_, c5⟩ := HC4.out _ _ s7
        clear s7
        go_wp2_with fail
        go_at_call 57
        refine Calls.mono (S7.out.call HA.out.base cV.out HZ5.out.2.2.2.2.1) ?_
        rintro e w8 ⟨rfl, s8⟩
        have S8 : Hid (Stand w0 a b nv (l2 ++ [32, 123, 10] ++ Q ++ blk2 1 ++ [114, 101, 116, 32] ++ V) w8) := s8
        clear s8 c5
        go_wp2_with fail
        go_at_call 99
        refine Calls.mono (S8.out.texts HA.out.size [⟨#[59, 10]⟩] 1 rfl (by omega) HZ5.out.2.2.2.2.2.1 rfl) ?_
        rintro e w9 ⟨rfl, s9⟩
        have S9 : Hid (Stand w0 a b nv (l2 ++ [32, 123, 10] ++ Q ++ blk2 1 ++ [114, 101, 116, 32] ++ V ++ [59, 10]) w9) := s9
        clear s9
        go_wp2_with fail
        go_at_call 108
        refine Calls.mono (S9.out.call HA.out.base cZ.out HZ5.out.2.2.2.2.2.2) ?_
        rintro e w10 ⟨rfl, s10⟩
        have S10 : Hid (Wrote w0.heap.size b nv (l ++ R) w (.returned (.tuple #[])) w10) := by rw [← HF2.out]; exact s10.wrote hz HA.out.up
        clear s10
        go_wp2
        go_returns
        exact S10.out

end Go.Proofs.YtbanmldmdoedkaaGreatDoor
