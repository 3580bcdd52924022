/-
  The law of CopyNodes: at every program, place and row of nodes it answers true.
-/
import Derived.Test.YtjafneaaefpefaaCopyM
import Derived.Test.YtjafneaaefpefaaMk
import Derived.Test.YtjafneaaefpefaaHeldNode
import Derived.Test.YtjafneaaefpefaaEqNd
import Derived.Test.YtjafneaaefpefaaPlain22
import Derived.Test.YtjafneaaefpefaaRa
namespace Go.Proofs.Ytjafneaaefpefaa
open Go.RowKit

/-- How much the answer holds. -/
structure CopyFits (xs : List Nd) : Prop where
  len : xs.length ≤ 1048576
  each : ∀ q ∈ xs, szNd q ≤ 1048576
  mark : 1 + markN lnNd xs ≤ 1000000000
theorem markN_each {qs : List Nd} {c : Nat} (h : ∀ q ∈ qs, lnNd q ≤ c) : markN lnNd qs ≤ qs.length * c := by
  induction qs with
  | nil => simp [markN]
  | cons q qs ih =>
    have h1 := h q (List.mem_cons_self ..)
    have h2 := ih (fun x hx => h x (List.mem_cons_of_mem _ hx))
    simp only [markN, List.length_cons, Nat.add_mul, Nat.one_mul]
    omega
theorem copyAns_fits {ns ms xs : List Nd} {k z : Int} (hn : szRow szNd ns ≤ 1048576) (hm : szRow szNd ms ≤ 1048576) (h : copyAns ns ms k = (xs, z)) : CopyFits xs := by
  have hms : CopyFits ms := ⟨Nat.le_trans (len_szRow szNd ms) hm, fun q hq => Nat.le_trans (mem_szRow szNd hq) hm, by have := lnNd_sz ms; omega⟩
  unfold copyAns at h
  split at h
  · cases h; exact hms
  · cases hp : pack ns 10 k ms with
    | none => rw [hp] at h; cases h; exact hms
    | some r =>
      rw [hp] at h
      have h1 : r = (xs, z) := h
      subst h1
      obtain ⟨qs, e, hq⟩ := pack_from ns 10 k ms _ hp
      have hl := (pack_pre ns 10 k ms _ hp).2.1
      simp only at e hl
      have hqs : qs.length ≤ 300 := by rw [e, List.length_append] at hl; omega
      have hsz : ∀ q ∈ qs, szNd q ≤ 1048576 := fun q hq' => by
        obtain ⟨n, hn', h3, h4⟩ := hq q hq'
        have := Nat.le_trans (mem_szRow szNd hn') hn
        unfold szNd at this ⊢
        rw [h3, h4]
        omega
      have hln : ∀ q ∈ qs, lnNd q ≤ 1048580 := fun q hq' => by
        have := hsz q hq'
        unfold szNd at this
        unfold lnNd
        rw [lnI_len]
        omega
      refine ⟨by omega, fun q hq' => ?_, ?_⟩
      · rw [e] at hq'
        rcases List.mem_append.mp hq' with h5 | h5
        · exact hms.each q h5
        · exact hsz q h5
      · rw [e, markN_append]
        have h6 := markN_each hln
        have h7 := lnNd_sz ms
        have h8 : qs.length * 1048580 ≤ 300 * 1048580 := Nat.mul_le_mul_right _ hqs
        omega

set_option maxRecDepth 100000 in
set_option maxHeartbeats 6400000 in
theorem lawCopy (a0 a1 : Value) (p : Pg) (k : Int) (u : Value) (ms : List Nd) (w : World) (hp : RowPg w w.heap.size a0 a1 p ∧ okPg p) (hu : NdR.Row w w.heap.size u ms ∧ okRow okNd ms) :
    Calls Try.prog 10 #[.agg #[a0, a1], .int .i64 k, u] w fun e w' => e = .returned (.bool true) ∧ Below w.heap.size w w' := by
  obtain ⟨ua, uc, rfl⟩ := hu.1.len
  obtain ⟨M, HM⟩ : ∃ M, Hid (ms.length = M) := ⟨_, (rfl : ms.length = ms.length)⟩
  rw [HM.out] at hu ⊢
  have cZ : Hid (∀ W, Below w.heap.size w W → Calls Try.prog 26 #[.agg #[a0, a1], .int .i64 1048576] W fun e w' => (∃ r : Int, e = .returned (.int .i64 r) ∧ (r = -1 ∨ (0 ≤ r ∧ r + (szPg p : Int) = 1048576))) ∧ Below W.heap.size W w') := fun W hW =>
    szProgram_sum w.heap.size p a0 a1 1048576 W hW.size (hp.1.keep hW) hp.2 (by omega) (by omega)
  have cY : Hid (∀ W (left : Int), 0 ≤ left → left ≤ 1048576 → Below w.heap.size w W → Calls Try.prog 19 #[.slice ua M uc, .int .i64 left] W fun e w' => (∃ r : Int, e = .returned (.int .i64 r) ∧ (r = -1 ∨ (0 ≤ r ∧ r + (szRow szNd ms : Int) = left))) ∧ Below W.heap.size W w') := fun W left h0 h1 hW =>
    szNodeS_sum w.heap.size _ ms left W hW.size (hu.1.keep hW) hu.2 h0 h1
  have HP : Hid (RowPg w w.heap.size a0 a1 p ∧ NdR.Row w w.heap.size (.slice ua M uc) ms) := ⟨hp.1, hu.1⟩
  clear hp hu
  go_enter Try.func10, Try.ntmps10
  go_wp2_with fail
  go_at_call 26
  refine Calls.mono (cZ.out _ (by go_grown)) ?_
  rintro e w1 ⟨⟨r, rfl, hr⟩, hb⟩
  have B1 : Hid (Box w (.cells #[a0, a1] 34) w1) := (Box.first _ _).next hb
  clear cZ hb
  rcases hr with rfl | ⟨hr0, hr1⟩
  · go_wp2
    go_ret
    exact ⟨rfl, B1.out.below⟩
  have hrn : ¬ r < 0 := by omega
  go_wp2_with fail
  go_at_call 19
  refine Calls.mono (cY.out _ r hr0 (by omega) B1.out.below) ?_
  rintro e w2 ⟨⟨s, rfl, hs⟩, hb⟩
  have B2 : Hid (Box w (.cells #[a0, a1] 34) w2) := B1.out.next hb
  clear cY hb B1
  rcases hs with rfl | ⟨hs0, hs1⟩
  · go_wp2
    go_ret
    exact ⟨rfl, B2.out.below⟩
  have hsn : ¬ s < 0 := by omega
  have hl : szPg p ≤ 1048576 := by omega
  have hl2 : szRow szNd ms ≤ 1048576 := by omega
  have HL : Hid ((szPg p ≤ 1048576 ∧ szRow szNd p.nodes ≤ 1048576) ∧ szRow szNd ms ≤ 1048576) := ⟨⟨hl, Nat.le_trans (le_szPg_nodes p) hl⟩, hl2⟩
  obtain ⟨N0, H0⟩ : ∃ K, Hid (p.nodes.length = K) := ⟨_, (rfl : p.nodes.length = p.nodes.length)⟩
  obtain ⟨N1, H1⟩ : ∃ K, Hid (p.fns.length = K) := ⟨_, (rfl : p.fns.length = p.fns.length)⟩
  have cT : Hid (∀ W, Below w.heap.size w W → Calls Try.prog 28 #[.agg #[a0, a1]] W fun e w' => ∃ g c g' c', e = .returned (.agg #[.slice (some ⟨g, 0, none⟩) N0 c, .slice (some ⟨g', 0, none⟩) N1 c']) ∧ OwnPg w' W.heap.size w'.heap.size (.slice (some ⟨g, 0, none⟩) N0 c) (.slice (some ⟨g', 0, none⟩) N1 c') p ∧ Below W.heap.size W w') := fun W hW => by
    rw [← H0.out, ← H1.out]
    exact toProgram_any w.heap.size p a0 a1 W hW.size (HP.out.1.keep hW) hl
  have cU : Hid (∀ W, Below w.heap.size w W → Calls Try.prog 21 #[.slice ua M uc] W fun e w' => ∃ g cap, e = .returned (.slice (some ⟨g, 0, none⟩) M cap) ∧ NdR.Own w' W.heap.size w'.heap.size (.slice (some ⟨g, 0, none⟩) M cap) ms ∧ Below W.heap.size W w') := fun W hW => by
    have h1 := toNodeS_any w.heap.size _ ms W hW.size (HP.out.2.keep hW) HL.out.2
    rw [HM.out] at h1
    exact h1
  obtain ⟨⟨xs, z⟩, hz⟩ : ∃ r, Hid (copyAns p.nodes ms k = r) := ⟨_, (rfl : copyAns p.nodes ms k = copyAns p.nodes ms k)⟩
  have HX : Hid (CopyFits xs) := copyAns_fits HL.out.1.2 HL.out.2 hz.out
  have cS : Hid (∀ W v0 v1 v2, RowPg W W.heap.size v0 v1 p → NdR.Row W W.heap.size v2 ms → Calls Try.prog 37 #[.agg #[v0, v1], .int .i64 k, v2] W (CopyRes xs z W)) := fun W v0 v1 v2 h h2 => specCopyNodes_any v0 v1 v2 p.nodes ms k W h.1 h2 HL.out.1.2 HL.out.2 xs z hz
  have cI : Hid (∀ W v0 v1 v2, RowPg W W.heap.size v0 v1 p → NdR.Row W W.heap.size v2 ms → Calls Try.prog 38 #[.agg #[v0, v1], .int .i64 k, v2] W (CopyRes xs z W)) := fun W v0 v1 v2 h h2 => implCopyNodes_any v0 v1 v2 p.nodes ms k W h.1 h2 HL.out.1.2 HL.out.2 xs z hz
  have cE : Hid (∀ W v v', NdR.Row W W.heap.size v xs → NdR.Row W W.heap.size v' xs → Calls Try.prog 23 #[v, v'] W fun e w' => e = .returned (.bool true) ∧ Below W.heap.size W w') := fun W v v' h h2 => eqNodeS_each W.heap.size v v' xs W (Nat.le_refl _) h h2 HX.out.len HX.out.each
  clear hl hl2 hr0 hr1 hs0 hs1
  have x0 : w2.cell? ⟨w.heap.size, 0, none⟩ = some a0 := B2.out.cell 0
  have x1 : w2.cell? ⟨w.heap.size, 1, none⟩ = some a1 := B2.out.cell 1
  go_wp2_with fail
  go_at_call 28
  refine Calls.mono (cT.out _ B2.out.below) ?_
  rintro e wA ⟨gA, cA, gA', cA', rfl, hoA, hbA⟩
  have DA : Hid (Box w (.cells #[a0, a1] 34) wA) := B2.out.next hbA
  have RA : Hid (RowPg wA wA.heap.size (.slice (some ⟨gA, 0, none⟩) N0 cA) (.slice (some ⟨gA', 0, none⟩) N1 cA') p) := hoA.row
  clear hoA hbA
  go_wp2_with fail
  go_at_call 21
  refine Calls.mono (cU.out _ DA.out.below) ?_
  rintro e wB ⟨gB, cB, rfl, hoB, hbB⟩
  have DB : Hid (Box w (.cells #[a0, a1] 34) wB) := DA.out.next hbB
  have RB : Hid (RowPg wB wB.heap.size (.slice (some ⟨gA, 0, none⟩) N0 cA) (.slice (some ⟨gA', 0, none⟩) N1 cA') p ∧ NdR.Row wB wB.heap.size (.slice (some ⟨gB, 0, none⟩) M cB) ms) := ⟨(RA.out.keep hbB).up hbB.size, hoB.row⟩
  clear hoB hbB RA DA
  go_wp2_with fail
  go_at_call 37
  refine Calls.mono (cS.out _ _ _ _ RB.out.1 RB.out.2) ?_
  rintro e wC ⟨sa, sn, sc, rfl, hoC, hbC⟩
  have DC := DB.out.next hbC
  have B3 : Hid (Box w (.cells #[a0, a1] 34) wC) := DC
  have S3 : Hid (NdR.Own wC wB.heap.size wC.heap.size (.slice sa sn sc) xs) := hoC
  have hz3 : w.heap.size < wB.heap.size ∧ wB.heap.size ≤ wC.heap.size := ⟨DB.out.lt, hbC.size⟩
  clear DB DC hbC hoC RB B2 x0 x1 cS
  have x0 := B3.out.cell 0
  have x1 := B3.out.cell 1
  simp at x0 x1
  go_wp2_with fail
  go_at_call 28
  refine Calls.mono (cT.out _ B3.out.below) ?_
  rintro e w4 ⟨g2, c2, g2', c2', rfl, ho, hb⟩
  have B4 : Hid (Box w (.cells #[a0, a1] 34) w4) := B3.out.next hb
  have S4 : Hid (NdR.Own w4 wB.heap.size wC.heap.size (.slice sa sn sc) xs) := S3.out.below hb (Nat.le_refl _)
  have P4 : Hid (OwnPg w4 wC.heap.size w4.heap.size (.slice (some ⟨g2, 0, none⟩) N0 c2) (.slice (some ⟨g2', 0, none⟩) N1 c2') p) := ho
  have hz4 : wC.heap.size ≤ w4.heap.size := hb.size
  clear hb ho B3 S3 x0 x1
  go_wp2_with fail
  go_at_call 21
  refine Calls.mono (cU.out _ (B4.out.alloc _).below) ?_
  rintro e w5 ⟨g3, c3, rfl, ho, hb⟩
  have X5 : Hid (Box w4 (.cells #[.slice (some ⟨g2, 0, none⟩) N0 c2, .slice (some ⟨g2', 0, none⟩) N1 c2'] 39) w5) := (Box.first _ _).next hb
  have B5 : Hid (Box w (.cells #[a0, a1] 34) w5) := B4.out.under X5.out
  have S5 : Hid (NdR.Own w5 wB.heap.size wC.heap.size (.slice sa sn sc) xs) := S4.out.below X5.out.below hz4
  have P5 : Hid (OwnPg w5 wC.heap.size w4.heap.size (.slice (some ⟨g2, 0, none⟩) N0 c2) (.slice (some ⟨g2', 0, none⟩) N1 c2') p) := P4.out.same (fun b _ h2 => X5.out.below.block b h2)
  have T5 : Hid (NdR.Own w5 (w4.heap.size + 1) w5.heap.size (.slice (some ⟨g3, 0, none⟩) M c3) ms) := ho.wide (by simp) (Nat.le_refl _)
  have hz5 : w4.heap.size < w5.heap.size := X5.out.lt
  clear hb ho B4 S4 P4
  have z0 : w5.cell? ⟨w4.heap.size, 0, none⟩ = some (.slice (some ⟨g2, 0, none⟩) N0 c2) := X5.out.cell 0
  have z1 : w5.cell? ⟨w4.heap.size, 1, none⟩ = some (.slice (some ⟨g2', 0, none⟩) N1 c2') := X5.out.cell 1
  go_wp2_with fail
  go_at_call 38
  refine Calls.mono (cI.out _ _ _ _ (P5.out.row.up (Nat.le_of_lt hz5)) T5.out.row) ?_
  rintro e w6 ⟨ga, gn, gc, rfl, ho, hb⟩
  have X6 : Hid (Box w4 (.cells #[.slice (some ⟨g2, 0, none⟩) N0 c2, .slice (some ⟨g2', 0, none⟩) N1 c2'] 39) w6) := X5.out.next hb
  have B6 : Hid (Box w (.cells #[a0, a1] 34) w6) := B5.out.next hb
  have S6 : Hid (NdR.Own w6 wB.heap.size wC.heap.size (.slice sa sn sc) xs) := S5.out.below hb (by omega)
  have P6 : Hid (OwnPg w6 wC.heap.size w4.heap.size (.slice (some ⟨g2, 0, none⟩) N0 c2) (.slice (some ⟨g2', 0, none⟩) N1 c2') p) := P5.out.same (fun b _ h2 => hb.block b (by omega))
  have T6 : Hid (NdR.Own w6 (w4.heap.size + 1) w5.heap.size (.slice (some ⟨g3, 0, none⟩) M c3) ms) := T5.out.below hb (Nat.le_refl _)
  have G6 : Hid (NdR.Own w6 w5.heap.size w6.heap.size (.slice ga gn gc) xs) := ho
  have hz6 : w5.heap.size ≤ w6.heap.size := hb.size
  clear hb ho B5 X5 S5 P5 T5 z0 z1
  go_wp2_with fail
  go_at_call 23
  refine Calls.mono (cE.out _ _ _ G6.out.row (S6.out.row.up (by omega))) ?_
  rintro e w7 ⟨rfl, hb⟩
  have X7 : Hid (Box w4 (.cells #[.slice (some ⟨g2, 0, none⟩) N0 c2, .slice (some ⟨g2', 0, none⟩) N1 c2'] 39) w7) := X6.out.next hb
  have B7 : Hid (Box w (.cells #[a0, a1] 34) w7) := B6.out.next hb
  have S7 : Hid (NdR.Own w7 wB.heap.size wC.heap.size (.slice sa sn sc) xs) := S6.out.below hb (by omega)
  have P7 : Hid (OwnPg w7 wC.heap.size w4.heap.size (.slice (some ⟨g2, 0, none⟩) N0 c2) (.slice (some ⟨g2', 0, none⟩) N1 c2') p) := P6.out.same (fun b _ h2 => hb.block b (by omega))
  have T7 : Hid (NdR.Own w7 (w4.heap.size + 1) w5.heap.size (.slice (some ⟨g3, 0, none⟩) M c3) ms) := T6.out.below hb hz6
  have G7 : Hid (NdR.Own w7 w5.heap.size w6.heap.size (.slice ga gn gc) xs) := G6.out.below hb (Nat.le_refl _)
  have hz7 : w6.heap.size ≤ w7.heap.size := hb.size
  clear hb B6 X6 S6 P6 T6 G6
  have z0 : w7.cell? ⟨w4.heap.size, 0, none⟩ = some (.slice (some ⟨g2, 0, none⟩) N0 c2) := X7.out.cell 0
  have z1 : w7.cell? ⟨w4.heap.size, 1, none⟩ = some (.slice (some ⟨g2', 0, none⟩) N1 c2') := X7.out.cell 1
  have x0 : w7.cell? ⟨w.heap.size, 0, none⟩ = some a0 := B7.out.cell 0
  have x1 : w7.cell? ⟨w.heap.size, 1, none⟩ = some a1 := B7.out.cell 1
  have hp7 : w4.heap.size ≤ w7.heap.size := by omega
  go_wp2_with fail
  go_region_held3 (fun w' => (w'.cell? ⟨w4.heap.size, 0, none⟩ = some (.slice (some ⟨g2, 0, none⟩) N0 c2) ∧ w'.cell? ⟨w4.heap.size, 1, none⟩ = some (.slice (some ⟨g2', 0, none⟩) N1 c2')) ∧ w'.cell? ⟨w.heap.size, 0, none⟩ = some a0 ∧ w'.cell? ⟨w.heap.size, 1, none⟩ = some a1) (first | exact ⟨⟨XE.cell 0, XE.cell 1⟩, DE.cell 0, DE.cell 1⟩ | exact ⟨⟨XD.cell 0, XD.cell 1⟩, DD.cell 0, DD.cell 1⟩ | exact ⟨⟨X7.out.drew.cell 0, X7.out.drew.cell 1⟩, B7.out.drew.cell 0, B7.out.drew.cell 1⟩) (first | (go_at_call 28; refine Calls.mono (cT.out _ B7.out.drew.below) ?_; rintro e wD ⟨gD, cD, gD', cD', rfl, hoD, hbD⟩; have DD := B7.out.drew.next hbD; have XD := X7.out.drew.next hbD) | (go_at_call 30; refine Calls.mono (eqProgram_same wD.heap.size p _ _ _ _ wD (Nat.le_refl _) ((P7.out.row.keep ((Below.refl _ _).drew.trans (hbD.mono hp7))).up (Nat.le_trans hp7 hbD.size)) hoD.row HL.out.1.1) ?_; rintro e wE ⟨rfl, hbE⟩; have DE := DD.next hbE; have XE := XD.next hbE))
  have HB8 : Hid (Below w7.heap.size w7 wE) := (Below.refl _ _).drew.trans (hbD.trans (hbE.mono hbD.size))
  clear DD DE XD XE hbD hbE hoD z0 z1 x0 x1
  have X8 : Hid (Box w4 (.cells #[.slice (some ⟨g2, 0, none⟩) N0 c2, .slice (some ⟨g2', 0, none⟩) N1 c2'] 39) wE) := X7.out.next HB8.out
  have B8 : Hid (Box w (.cells #[a0, a1] 34) wE) := B7.out.next HB8.out
  have S8 : Hid (NdR.Own wE wB.heap.size wC.heap.size (.slice sa sn sc) xs) := S7.out.below HB8.out (by omega)
  have P8 : Hid (OwnPg wE wC.heap.size w4.heap.size (.slice (some ⟨g2, 0, none⟩) N0 c2) (.slice (some ⟨g2', 0, none⟩) N1 c2') p) := P7.out.same (fun b _ h2 => HB8.out.block b (by omega))
  have T8 : Hid (NdR.Own wE (w4.heap.size + 1) w5.heap.size (.slice (some ⟨g3, 0, none⟩) M c3) ms) := T7.out.below HB8.out (by omega)
  have G8 : Hid (NdR.Own wE w5.heap.size w6.heap.size (.slice ga gn gc) xs) := G7.out.below HB8.out hz7
  have hz8 : w6.heap.size ≤ wE.heap.size := Nat.le_trans hz7 HB8.out.size
  clear B7 X7 S7 P7 T7 G7 HB8
  go_wp2_with fail
  go_at_call 21
  refine Calls.mono (cU.out _ B8.out.below) ?_
  rintro e w9 ⟨g4, c4, rfl, ho, hb⟩
  have hT9 : NdR.Row w9 w9.heap.size (.slice (some ⟨g3, 0, none⟩) M c3) ms := (T8.out.below hb (by omega)).row.up (by have := hb.size; omega)
  have hb9 := hb
  go_wp2_with fail
  go_at_call 23
  refine Calls.mono (eqNodeS_same w9.heap.size _ _ ms w9 (Nat.le_refl _) hT9 ho.row HL.out.2) ?_
  rintro e w10 ⟨rfl, hb2⟩
  have HB9 : Hid (Below wE.heap.size wE w10) := hb9.trans (hb2.mono hb9.size)
  clear hb hb2 hb9 hT9 ho
  have X9 : Hid (Box w4 (.cells #[.slice (some ⟨g2, 0, none⟩) N0 c2, .slice (some ⟨g2', 0, none⟩) N1 c2'] 39) w10) := X8.out.next HB9.out
  have B9 : Hid (Box w (.cells #[a0, a1] 34) w10) := B8.out.next HB9.out
  have S9 : Hid (NdR.Own w10 wB.heap.size wC.heap.size (.slice sa sn sc) xs) := S8.out.below HB9.out (by omega)
  have P9 : Hid (OwnPg w10 wC.heap.size w4.heap.size (.slice (some ⟨g2, 0, none⟩) N0 c2) (.slice (some ⟨g2', 0, none⟩) N1 c2') p) := P8.out.same (fun b _ h2 => HB9.out.block b (by omega))
  have T9 : Hid (NdR.Own w10 (w4.heap.size + 1) w5.heap.size (.slice (some ⟨g3, 0, none⟩) M c3) ms) := T8.out.below HB9.out (by omega)
  have G9 : Hid (NdR.Own w10 w5.heap.size w6.heap.size (.slice ga gn gc) xs) := G8.out.below HB9.out hz8
  have hz9 : w6.heap.size ≤ w10.heap.size := Nat.le_trans hz8 HB9.out.size
  clear B8 X8 S8 P8 T8 G8 HB9
  have z0 : w10.cell? ⟨w4.heap.size, 0, none⟩ = some (.slice (some ⟨g2, 0, none⟩) N0 c2) := X9.out.cell 0
  have z1 : w10.cell? ⟨w4.heap.size, 1, none⟩ = some (.slice (some ⟨g2', 0, none⟩) N1 c2') := X9.out.cell 1
  go_wp2_with fail
  go_at_call 34
  refine Calls.mono (markProgram_any wC.heap.size w4.heap.size _ _ p w10 P9.out (by omega) HL.out.1.1) ?_
  rintro e w11 ⟨⟨km, rfl, hkm, hkp⟩, hrim⟩
  have B11 : Hid (Box w (.cells #[a0, a1] 34) w11) := ⟨B9.out.b.trans ((hrim.below (by omega)).mono (by omega))⟩
  have S11 : Hid (NdR.Own w11 wB.heap.size wC.heap.size (.slice sa sn sc) xs) := S9.out.same (fun g _ h2 => hrim.block g (by omega) (.inl h2))
  have T11 : Hid (NdR.Own w11 (w4.heap.size + 1) w5.heap.size (.slice (some ⟨g3, 0, none⟩) M c3) ms) := T9.out.same (fun g h1 h2 => hrim.block g (by omega) (.inr (by omega)))
  have G11 : Hid (NdR.Own w11 w5.heap.size w6.heap.size (.slice ga gn gc) xs) := G9.out.same (fun g h1 h2 => hrim.block g (by omega) (.inr (by omega)))
  have hz11 : w6.heap.size ≤ w11.heap.size := Nat.le_trans hz9 hrim.size
  clear hrim B9 X9 S9 P9 T9 G9 z0 z1
  obtain ⟨ts, hts, htp, htn, htb⟩ := T11.out
  have hmk : km + markN lnNdP ts ≤ 1000000000 := by
    have h1 := lnNd_sz ms
    have h2 : markN lnNdP ts = markN lnNd ms := by rw [lnNdP_map, ← hts]; rfl
    have := HL.out.2
    omega
  have cM : Hid (Calls Try.prog 39 #[.slice (some ⟨g3, 0, none⟩) M c3, .int .i64 (km : Int)] w11 fun e' w' => e' = .returned (.int .i64 ((km + markN lnNdP ts : Nat) : Int)) ∧ NdR.Phys w' (w4.heap.size + 1) (.slice (some ⟨g3, 0, none⟩) M c3) (markL mkNdP lnNdP km ts) ∧ Kept (NdR.all (.slice (some ⟨g3, 0, none⟩) M c3) ts) w11 w') := markNodeS_any (w4.heap.size + 1) _ km ts w11 hmk hkp htp htn
  have HTB : Hid (∀ g ∈ fps (NdR.all (.slice (some ⟨g3, 0, none⟩) M c3) ts), w4.heap.size + 1 ≤ g ∧ g < w5.heap.size) := htb
  clear htp htn htb hts T11
  obtain ⟨kn, hkn⟩ : ∃ y : Nat, Hid (km + markN lnNdP ts = y) := ⟨_, (rfl : km + markN lnNdP ts = km + markN lnNdP ts)⟩
  rw [hkn.out] at cM hmk
  go_wp2_with fail
  go_at_call 39
  refine Calls.mono cM.out ?_
  rintro e w12 ⟨rfl, _, hk⟩
  have B12 : Hid (Box w (.cells #[a0, a1] 34) w12) := ⟨B11.out.b.trans (hk.below (by omega) (fun g hg => by have := (HTB.out g hg).1; omega))⟩
  have S12 : Hid (NdR.Own w12 wB.heap.size wC.heap.size (.slice sa sn sc) xs) := S11.out.same (fun g _ h2 => hk.block g (by omega) (fun hm => by have := (HTB.out g hm).1; omega))
  have G12 : Hid (NdR.Own w12 w5.heap.size w6.heap.size (.slice ga gn gc) xs) := G11.out.same (fun g h1 h2 => hk.block g (by omega) (fun hm => by have := (HTB.out g hm).2; omega))
  have hz12 : w6.heap.size ≤ w12.heap.size := Nat.le_trans hz11 hk.size
  clear hk B11 S11 G11 cM HTB
  have hknn : ¬ (kn : Int) < 0 := by omega
  go_wp2_with fail
  go_at_call 23
  refine Calls.mono (cE.out _ _ _ (G12.out.row.up hz12) (S12.out.row.up (by omega))) ?_
  rintro e w13 ⟨rfl, hb⟩
  have B13 : Hid (Box w (.cells #[a0, a1] 34) w13) := B12.out.next hb
  have S13 : Hid (NdR.Own w13 wB.heap.size wC.heap.size (.slice sa sn sc) xs) := S12.out.below hb (by omega)
  have G13 : Hid (NdR.Own w13 w5.heap.size w6.heap.size (.slice ga gn gc) xs) := G12.out.below hb hz12
  have hz13 : w6.heap.size ≤ w13.heap.size := Nat.le_trans hz12 hb.size
  clear hb B12 S12 G12
  obtain ⟨gs, hgs, hgp, hgn, hgb⟩ := G13.out
  have HGM : Hid (markN lnNdP gs = markN lnNd xs) := by show _ = _; rw [lnNdP_map, ← hgs]; rfl
  have cN : Hid (Calls Try.prog 39 #[.slice ga gn gc, .int .i64 ((1 : Nat) : Int)] w13 fun e' w' => e' = .returned (.int .i64 ((1 + markN lnNdP gs : Nat) : Int)) ∧ NdR.Phys w' w5.heap.size (.slice ga gn gc) (markL mkNdP lnNdP 1 gs) ∧ Kept (NdR.all (.slice ga gn gc) gs) w13 w') := markNodeS_any w5.heap.size _ 1 gs w13 (by rw [HGM.out]; exact HX.out.mark) (by omega) hgp hgn
  have HGB : Hid ((∀ g ∈ fps (NdR.all (.slice ga gn gc) gs), w5.heap.size ≤ g ∧ g < w6.heap.size) ∧ gs.map Prod.fst = xs) := ⟨hgb, hgs⟩
  clear hgs hgp hgn hgb G13
  obtain ⟨Y, hY⟩ : ∃ y : Nat, Hid (1 + markN lnNd xs = y) := ⟨_, (rfl : 1 + markN lnNd xs = 1 + markN lnNd xs)⟩
  rw [HGM.out, hY.out] at cN
  have hYb : Y ≤ 1000000000 := by rw [← hY.out]; exact HX.out.mark
  have hYn : ¬ (Y : Int) < 0 := by omega
  go_wp2_with fail
  go_at_call 39
  refine Calls.mono cN.out ?_
  rintro e w14 ⟨rfl, hph, hk⟩
  have B14 : Hid (Box w (.cells #[a0, a1] 34) w14) := ⟨B13.out.b.trans (hk.below (by omega) (fun g hg => by have := (HGB.out.1 g hg).1; omega))⟩
  have S14 : Hid (NdR.Own w14 wB.heap.size wC.heap.size (.slice sa sn sc) xs) := S13.out.same (fun g _ h2 => hk.block g (by omega) (fun hm => by have := (HGB.out.1 g hm).1; omega))
  have G14 : Hid (NdR.Row w14 w14.heap.size (.slice ga gn gc) (markL mkNd lnNd 1 xs)) := by
    have h1 := hph.read (H := w14.heap.size) (fun g hg => (hph.lt g hg).2)
    have h2 : (markL mkNdP lnNdP 1 gs).map NdR.log = markL mkNd lnNd 1 xs := by
      rw [← HGB.out.2]
      exact markTo_map (mk' := mkNd) (ln' := lnNd) (log := Prod.fst) (fun _ _ => rfl) (fun _ => rfl) gs 1
    rw [h2] at h1
    exact h1
  have hz14 : w6.heap.size ≤ w14.heap.size := Nat.le_trans hz13 hk.size
  clear hk hph B13 S13 cN HGB HGM
  have cH : Hid (∀ W, NdR.Row W W.heap.size (.slice ga gn gc) (markL mkNd lnNd 1 xs) → Calls Try.prog 40 #[.slice ga gn gc, .int .i64 ((1 : Nat) : Int)] W fun e' w' => e' = .returned (.int .i64 (Y : Int)) ∧ Below W.heap.size W w') := fun W h => by
    have h1 := heldNodeS_any W.heap.size _ 1 xs W (Nat.le_refl _) HX.out.mark (by omega) h
    rw [hY.out] at h1
    exact h1
  go_wp2_with fail
  go_at_call 40
  refine Calls.mono (cH.out _ G14.out) ?_
  rintro e w15 ⟨rfl, hb⟩
  have B15 : Hid (Box w (.cells #[a0, a1] 34) w15) := B14.out.next hb
  have S15 : Hid (NdR.Own w15 wB.heap.size wC.heap.size (.slice sa sn sc) xs) := S14.out.below hb (by omega)
  have G15 : Hid (NdR.Row w15 w15.heap.size (.slice ga gn gc) (markL mkNd lnNd 1 xs)) := (G14.out.keep hb).up hb.size
  have hz15 : w6.heap.size ≤ w15.heap.size := Nat.le_trans hz14 hb.size
  clear hb B14 S14 G14
  have x0 : w15.cell? ⟨w.heap.size, 0, none⟩ = some a0 := B15.out.cell 0
  have x1 : w15.cell? ⟨w.heap.size, 1, none⟩ = some a1 := B15.out.cell 1
  go_wp2_with fail
  go_at_call 28
  refine Calls.mono (cT.out _ B15.out.below) ?_
  rintro e w16 ⟨g5, c5, g5', c5', rfl, ho, hb⟩
  have B16 : Hid (Box w (.cells #[a0, a1] 34) w16) := B15.out.next hb
  have S16 : Hid (NdR.Own w16 wB.heap.size wC.heap.size (.slice sa sn sc) xs) := S15.out.below hb (by omega)
  have G16 : Hid (NdR.Row w16 w16.heap.size (.slice ga gn gc) (markL mkNd lnNd 1 xs)) := (G15.out.keep hb).up hb.size
  have R16 : Hid (RowPg w16 w16.heap.size (.slice (some ⟨g5, 0, none⟩) N0 c5) (.slice (some ⟨g5', 0, none⟩) N1 c5') p) := ho.row
  have hz16 : w6.heap.size ≤ w16.heap.size := Nat.le_trans hz15 hb.size
  clear hb ho B15 S15 G15 x0 x1
  go_wp2_with fail
  go_at_call 21
  refine Calls.mono (cU.out _ B16.out.below) ?_
  rintro e w17 ⟨g6, c6, rfl, ho, hb⟩
  have B17 : Hid (Box w (.cells #[a0, a1] 34) w17) := B16.out.next hb
  have S17 : Hid (NdR.Own w17 wB.heap.size wC.heap.size (.slice sa sn sc) xs) := S16.out.below hb (by omega)
  have G17 : Hid (NdR.Row w17 w17.heap.size (.slice ga gn gc) (markL mkNd lnNd 1 xs)) := (G16.out.keep hb).up hb.size
  have R17 : Hid (RowPg w17 w17.heap.size (.slice (some ⟨g5, 0, none⟩) N0 c5) (.slice (some ⟨g5', 0, none⟩) N1 c5') p ∧ NdR.Row w17 w17.heap.size (.slice (some ⟨g6, 0, none⟩) M c6) ms) := ⟨(R16.out.keep hb).up hb.size, ho.row⟩
  have hz17 : w6.heap.size ≤ w17.heap.size := Nat.le_trans hz16 hb.size
  clear hb ho B16 S16 G16 R16
  go_wp2_with fail
  go_at_call 38
  refine Calls.mono (cI.out _ _ _ _ R17.out.1 R17.out.2) ?_
  rintro e w18 ⟨ha, hn, hc, rfl, ho, hb⟩
  have B18 : Hid (Box w (.cells #[a0, a1] 34) w18) := B17.out.next hb
  have S18 : Hid (NdR.Own w18 wB.heap.size wC.heap.size (.slice sa sn sc) xs) := S17.out.below hb (by omega)
  have G18 : Hid (NdR.Row w18 w18.heap.size (.slice ga gn gc) (markL mkNd lnNd 1 xs)) := (G17.out.keep hb).up hb.size
  have H18 : Hid (NdR.Row w18 w18.heap.size (.slice ha hn hc) xs) := ho.row
  have hz18 : w6.heap.size ≤ w18.heap.size := Nat.le_trans hz17 hb.size
  clear hb ho B17 S17 G17 R17 cI
  go_wp2_with fail
  go_at_call 23
  refine Calls.mono (cE.out _ _ _ H18.out (S18.out.row.up (by omega))) ?_
  rintro e w19 ⟨rfl, hb⟩
  have B19 : Hid (Box w (.cells #[a0, a1] 34) w19) := B18.out.next hb
  have G19 : Hid (NdR.Row w19 w19.heap.size (.slice ga gn gc) (markL mkNd lnNd 1 xs)) := (G18.out.keep hb).up hb.size
  clear hb B18 S18 G18 H18
  go_wp2_with fail
  go_at_call 40
  refine Calls.mono (cH.out _ G19.out) ?_
  rintro e w20 ⟨rfl, hb⟩
  have B20 : Hid (Box w (.cells #[a0, a1] 34) w20) := B19.out.next hb
  clear hb B19 G19
  go_wp2
  go_ret
  exact ⟨rfl, B20.out.below⟩

end Go.Proofs.Ytjafneaaefpefaa
