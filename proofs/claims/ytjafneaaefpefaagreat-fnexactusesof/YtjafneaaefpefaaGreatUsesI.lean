/-
  UsesOf, in the program: the nodes under the Body and the Ret, sorted, each once, without those that do not use the name.
-/
import Derived.Test.YtjafneaaefpefaaGreatUsesK
import Derived.Test.YtjafneaaefpefaaGreatUsesC
import Derived.Test.YtjafneaaefpefaaGreatVb
namespace Go.Proofs.YtjafneaaefpefaaGreat
open Go.RowKit

theorem lt_alloc (w : World) (o : Obj) : w.heap.size < (w.alloc o).heap.size := by simp
theorem usesF_len (ns : List Nd) (nm : ByteArray) (zs : List Int) : (usesF ns nm zs).length ≤ zs.length := List.length_filter_le _ _

set_option maxRecDepth 100000 in
set_option maxHeartbeats 6400000 in
theorem implUsesOf_any (v0 v1 : Value) (p : Pg) (fn : Int) (nm : ByteArray) (w : World) (hR : RowPg w w.heap.size v0 v1 p) (hl : szPg p ≤ 1048576) :
    Calls Tryz.prog 11 #[.agg #[v0, v1], .int .i64 fn, .string nm] w fun e w' => (∃ a n cap, e = .returned (.slice a n cap) ∧ OwnsI w' w.heap.size (.slice a n cap) (usesOf p fn nm)) ∧ Below w.heap.size w w' := by
  obtain ⟨na, nc, rfl⟩ := hR.1.len
  obtain ⟨fa, fcap, rfl⟩ := hR.2.len
  obtain ⟨N, HN⟩ : ∃ N, Hid (p.nodes.length = N) := ⟨_, (rfl : p.nodes.length = p.nodes.length)⟩
  obtain ⟨F, HF⟩ : ∃ N, Hid (p.fns.length = N) := ⟨_, (rfl : p.fns.length = p.fns.length)⟩
  have HV : Hid (RowPg w w.heap.size (.slice na N nc) (.slice fa F fcap) p) := by rw [← HN.out, ← HF.out]; exact hR
  have HL : Hid (szRow szNd p.nodes ≤ 1048576 ∧ szRow szFc p.fns ≤ 1048576) := ⟨Nat.le_trans (le_szPg_nodes p) hl, Nat.le_trans (le_szPg_fns p) hl⟩
  have hFl : F ≤ 1048576 := by have := len_szRow szFc p.fns; have := HF.out; have := HL.out.2; omega
  rw [HN.out, HF.out]
  clear hR hl
  have cL0 : Hid (∀ W, Calls Tryz.prog 33 #[.agg #[.slice na N nc, .slice fa F fcap], .int .i64 fn] W fun e w' => e = .returned (.bool (isIn fn 0 ((F : Int) - 1))) ∧ Below W.heap.size W w') := fun W => isFn_any _ fa F fcap fn W
  by_cases hin : 0 ≤ fn ∧ fn ≤ (F : Int) - 1
  rotate_left
  · have hI : isIn fn 0 ((F : Int) - 1) = false := by
      cases hc : isIn fn 0 ((F : Int) - 1)
      · rfl
      · exact absurd ((isIn_iff _ _ _).mp hc) hin
    have HE : Hid (usesOf p fn nm = []) := by
      show _ = _
      unfold usesOf allOf
      rw [HF.out, hI]
      rfl
    rw [HE.out]
    rw [hI] at cL0
    clear HV hin hI
    go_enter Tryz.func11, Tryz.ntmps11
    go_wp2_with fail
    go_at_call 33
    refine Calls.mono (cL0.out _) ?_
    rintro e w1 ⟨rfl, hb⟩
    have HB : Hid (Below w.heap.size w w1) := by
      refine Below.trans ?_ (hb.mono (by simp; omega))
      go_grown
    clear hb
    go_wp2
    go_ret
    exact ⟨⟨none, 0, 0, rfl, ownsR_nil _ _ _ _ _⟩, HB.out⟩
  obtain ⟨m, rfl⟩ : ∃ m : Nat, fn = (m : Int) := ⟨fn.toNat, by omega⟩
  have hI : isIn (m : Int) 0 ((F : Int) - 1) = true := (isIn_iff _ _ _).mpr hin
  rw [hI] at cL0
  have hmF : m < F := by omega
  have hmf : m < p.fns.length := by have := HF.out; omega
  have hm0 : (0 : Int) ≤ (m : Int) := by omega
  have hm1 : (m : Int) < (F : Int) := by omega
  obtain ⟨b, off, pv, rfl, hkb, c0, c1, c2, c3, c4, hP⟩ := FcR.at HV.out.2 m hmf
  have HE : Hid (usesOf p (m : Int) nm = usesF p.nodes nm (allL (underL p.nodes p.fns[m].body) (underL p.nodes p.fns[m].ret))) := by
    show _ = _
    unfold usesOf allOf
    rw [HF.out, if_pos hI]
    simp [List.getD, hmf]
  obtain ⟨q, hq⟩ : ∃ q, Hid (p.fns[m] = q) := ⟨_, (rfl : p.fns[m] = p.fns[m])⟩
  rw [hq.out] at c3 c4 HE
  rw [HE.out]
  obtain ⟨fb, hfb⟩ : ∃ z, Hid (q.body = z) := ⟨_, (rfl : q.body = q.body)⟩
  obtain ⟨ft, hft⟩ : ∃ z, Hid (q.ret = z) := ⟨_, (rfl : q.ret = q.ret)⟩
  rw [hfb.out] at c3 ⊢
  rw [hft.out] at c4 ⊢
  obtain ⟨A, hA⟩ : ∃ A, Hid (underL p.nodes fb = A) := ⟨_, (rfl : underL p.nodes fb = underL p.nodes fb)⟩
  obtain ⟨C, hC⟩ : ∃ A, Hid (underL p.nodes ft = A) := ⟨_, (rfl : underL p.nodes ft = underL p.nodes ft)⟩
  have cU : Hid (∀ W k xs, Below w.heap.size w W → underL p.nodes k = xs → Calls Tryz.prog 35 #[.agg #[.slice na N nc, .slice (some ⟨b, off, none⟩) F fcap], .int .i64 k] W fun e w' => (∃ a cap, e = .returned (.slice a xs.length cap) ∧ OwnsI w' W.heap.size (.slice a xs.length cap) xs ∧ xs.length ≤ 1048576) ∧ Below W.heap.size W w') := fun W k xs hW hx => by
    subst hx
    refine (implUnder_any _ _ p.nodes k W ((HV.out.1.keep hW).up hW.size) HL.out.1).mono ?_
    rintro e w' ⟨⟨v, xs, he, ho, ha, hx⟩, hb⟩
    obtain rfl := underAns_one ha (underAns_L p.nodes k)
    obtain ⟨a, cap, rfl⟩ := RowR.len ho.row
    exact ⟨⟨a, cap, he, ho, hx⟩, hb⟩
  have HIn : Hid (∀ x ∈ allL A C, 0 ≤ x ∧ x < (p.nodes.length : Int)) := fun x hx => by
    rcases ((allL_in A C).2 x).mp hx with h | h
    · rw [← hA.out] at h
      have := underL_in h
      exact ⟨this.1, this.2.2.1⟩
    · rw [← hC.out] at h
      have := underL_in h
      exact ⟨this.1, this.2.2.1⟩
  rw [hA.out, hC.out]
  obtain ⟨X, HX⟩ : ∃ X, Hid (A.length = X) := ⟨_, (rfl : A.length = A.length)⟩
  obtain ⟨Y, HY⟩ : ∃ X, Hid (C.length = X) := ⟨_, (rfl : C.length = C.length)⟩
  have HC : Hid (w.cell? ⟨b, off + m * 5 + 3, none⟩ = some (.int .i64 fb) ∧ w.cell? ⟨b, off + m * 5 + 4, none⟩ = some (.int .i64 ft)) := ⟨c3, c4⟩
  clear c0 c1 c2 c3 c4 hP hq hfb hft hin hI
  go_enter Tryz.func11, Tryz.ntmps11
  go_wp2_with fail
  go_at_call 33
  refine Calls.mono (cL0.out _) ?_
  rintro e w1 ⟨rfl, hb1⟩
  have HU1 : Hid (Below w.heap.size w w1 ∧ w.heap.size + 2 ≤ w1.heap.size ∧ w1.cell? ⟨w.heap.size, 0, none⟩ = some (.slice na N nc) ∧ w1.cell? ⟨w.heap.size, 1, none⟩ = some (.slice (some ⟨b, off, none⟩) F fcap) ∧ w1.cell? ⟨w.heap.size + 1, 0, none⟩ = some (.string nm)) := by
    have hz := hb1.size
    simp at hz
    refine ⟨Below.trans (by go_grown) (hb1.mono (by simp; omega)), by omega, ?_, ?_, ?_⟩
    · exact (hb1.cell (p := ⟨w.heap.size, 0, none⟩) (by show _ < _; simp; omega)).trans (by simp)
    · exact (hb1.cell (p := ⟨w.heap.size, 1, none⟩) (by show _ < _; simp; omega)).trans (by simp)
    · exact (hb1.cell (p := ⟨w.heap.size + 1, 0, none⟩) (by show _ < _; simp)).trans (by simp)
  have x0 := HU1.out.2.2.1
  have x1 := HU1.out.2.2.2.1
  have e3 := (HU1.out.1.cell (p := ⟨b, off + m * 5 + 3, none⟩) hkb).trans HC.out.1
  have e4 := (HU1.out.1.cell (p := ⟨b, off + m * 5 + 4, none⟩) hkb).trans HC.out.2
  have hw1 := HU1.out.2.1
  have hwl : w.heap.size < w1.heap.size := by omega
  have hbl : b < w1.heap.size := by omega
  have cC : Hid (∀ W pb cc s1 s2 k1 k2, pb < W.heap.size → W.cell? ⟨pb, 0, none⟩ = some (.slice s1 X k1) → W.cell? ⟨pb, 1, none⟩ = some (.slice s2 Y k2) → OwnsI W 0 (.slice s1 X k1) A → OwnsI W 0 (.slice s2 Y k2) C → X ≤ 1048576 → Y ≤ 1048576 → Calls Tryz.prog 34 #[.slice (some ⟨pb, 0, none⟩) 2 cc] W fun e w' => (∃ a n c, e = .returned (.slice a n c) ∧ OwnsI w' W.heap.size (.slice a n c) (A ++ C)) ∧ Below W.heap.size W w') := fun W pb cc s1 s2 k1 k2 h1 h2 h3 h4 h5 h6 h7 =>
    concatI_any pb cc s1 s2 X k1 Y k2 A C W h1 h2 h3 h4 h5 (by rw [HX.out]; exact h6) (by rw [HY.out]; exact h7)
  have cUA : Hid (∀ W, Below w.heap.size w W → Calls Tryz.prog 35 #[.agg #[.slice na N nc, .slice (some ⟨b, off, none⟩) F fcap], .int .i64 fb] W fun e w' => (∃ a cap, e = .returned (.slice a X cap) ∧ OwnsI w' W.heap.size (.slice a X cap) A ∧ X ≤ 1048576) ∧ Below W.heap.size W w') := fun W hW => by
    have h1 := cU.out W fb A hW hA.out
    rw [HX.out] at h1
    exact h1
  have cUC : Hid (∀ W, Below w.heap.size w W → Calls Tryz.prog 35 #[.agg #[.slice na N nc, .slice (some ⟨b, off, none⟩) F fcap], .int .i64 ft] W fun e w' => (∃ a cap, e = .returned (.slice a Y cap) ∧ OwnsI w' W.heap.size (.slice a Y cap) C ∧ Y ≤ 1048576) ∧ Below W.heap.size W w') := fun W hW => by
    have h1 := cU.out W ft C hW hC.out
    rw [HY.out] at h1
    exact h1
  clear hb1 cL0 cU
  go_wp2_with fail
  go_region_held3 (fun w' => ((w'.cell? ⟨w.heap.size, 0, none⟩ = some (.slice na N nc) ∧ w'.cell? ⟨w.heap.size, 1, none⟩ = some (.slice (some ⟨b, off, none⟩) F fcap)) ∧ w'.cell? ⟨b, off + m * 5 + 3, none⟩ = some (.int .i64 fb)) ∧ w'.cell? ⟨b, off + m * 5 + 4, none⟩ = some (.int .i64 ft)) (first | exact ⟨⟨⟨z0, z1⟩, z3⟩, z4⟩ | exact ⟨⟨⟨t0, t1⟩, t3⟩, t4⟩ | exact ⟨⟨⟨y0, y1⟩, y3⟩, y4⟩ | exact ⟨⟨⟨x0, x1⟩, e3⟩, e4⟩ | go_keep) (first | (have _z := t0; go_at_call 34; refine Calls.mono (cC.out _ _ _ sa sc ca ct hpbz hd0 hd1 hoA hoC hxl hyl) ?_; rintro e w6 ⟨⟨ra, rn, rc, rfl, hor⟩, hb6⟩; have z0 := (hb6.cell (p := ⟨w.heap.size, 0, none⟩) hl50).trans q0; have z1 := (hb6.cell (p := ⟨w.heap.size, 1, none⟩) hl50).trans q1; have z3 := (hb6.cell (p := ⟨b, off + m * 5 + 3, none⟩) hl5b).trans q3; have z4 := (hb6.cell (p := ⟨b, off + m * 5 + 4, none⟩) hl5b).trans q4) | (have _z := y0; go_at_call 35; refine Calls.mono (cUC.out w3 HB3) ?_; rintro e w5 ⟨⟨sc, ct, rfl, hot, hyl⟩, hb5⟩; have hl30 : w.heap.size < w3.heap.size := Nat.lt_of_lt_of_le hwl hb3.size; have hl3b : b < w3.heap.size := Nat.lt_of_lt_of_le hbl hb3.size; have t0 := (hb5.cell (p := ⟨w.heap.size, 0, none⟩) hl30).trans y0; have t1 := (hb5.cell (p := ⟨w.heap.size, 1, none⟩) hl30).trans y1; have t3 := (hb5.cell (p := ⟨b, off + m * 5 + 3, none⟩) hl3b).trans y3; have t4 := (hb5.cell (p := ⟨b, off + m * 5 + 4, none⟩) hl3b).trans y4; have hn5 : Below w5.heap.size w5 (w5.alloc (.cells #[.slice sa X ca, .slice sc Y ct] 35)) := (Below.refl _ _).alloc (Nat.le_refl _) _; have hl50 : w.heap.size < (w5.alloc (.cells #[.slice sa X ca, .slice sc Y ct] 35)).heap.size := Nat.lt_of_lt_of_le (Nat.lt_of_lt_of_le hl30 hb5.size) hn5.size; have hl5b : b < (w5.alloc (.cells #[.slice sa X ca, .slice sc Y ct] 35)).heap.size := Nat.lt_of_lt_of_le (Nat.lt_of_lt_of_le hl3b hb5.size) hn5.size; have q0 := (hn5.cell (p := ⟨w.heap.size, 0, none⟩) (Nat.lt_of_lt_of_le hl30 hb5.size)).trans t0; have q1 := (hn5.cell (p := ⟨w.heap.size, 1, none⟩) (Nat.lt_of_lt_of_le hl30 hb5.size)).trans t1; have q3 := (hn5.cell (p := ⟨b, off + m * 5 + 3, none⟩) (Nat.lt_of_lt_of_le hl3b hb5.size)).trans t3; have q4 := (hn5.cell (p := ⟨b, off + m * 5 + 4, none⟩) (Nat.lt_of_lt_of_le hl3b hb5.size)).trans t4; have hpbz := lt_alloc w5 (.cells #[.slice sa X ca, .slice sc Y ct] 35); have hd0 := cell_at (heap_alloc_new w5 (.cells #[.slice sa X ca, .slice sc Y ct] 35)) 0; have hd1 := cell_at (heap_alloc_new w5 (.cells #[.slice sa X ca, .slice sc Y ct] 35)) 1; have hoA := owns_base (OwnsR.below (OwnsR.below hos hb5) hn5) (Nat.zero_le _); have hoC := owns_base (OwnsR.below hot hn5) (Nat.zero_le _)) | (go_at_call 35; refine Calls.mono (cUA.out _ HU1.out.1.drew) ?_; rintro e w3 ⟨⟨sa, ca, rfl, hos, hxl⟩, hb3⟩; have y0 := (hb3.cell (p := ⟨w.heap.size, 0, none⟩) hwl).trans x0; have y1 := (hb3.cell (p := ⟨w.heap.size, 1, none⟩) hwl).trans x1; have y3 := (hb3.cell (p := ⟨b, off + m * 5 + 3, none⟩) hbl).trans e3; have y4 := (hb3.cell (p := ⟨b, off + m * 5 + 4, none⟩) hbl).trans e4; have HB3 := HU1.out.1.drew.trans (hb3.mono (Nat.le_of_lt hwl))))
  have HD6 : Hid (Below w1.heap.size w1 w6) := by
    have h1 : Below w1.heap.size w1 w3 := (Below.refl _ _).drew.trans hb3
    have h2 : Below w1.heap.size w1 w5 := h1.trans (hb5.mono h1.size)
    have h3 := h2.alloc h2.size (.cells #[.slice sa X ca, .slice sc Y ct] 35)
    exact h3.trans (hb6.mono h3.size)
  have HO6 : Hid (OwnsI w6 (w.heap.size + 2) (.slice ra rn rc) (A ++ C)) := by
    refine owns_base hor ?_
    have h1 : Below w1.heap.size w1 w3 := (Below.refl _ _).drew.trans hb3
    have h2 := h1.size
    have h3 := hb5.size
    have h4 := hn5.size
    omega
  have HB6 : Hid (Below w.heap.size w w6 ∧ w.heap.size + 2 ≤ w6.heap.size) := ⟨HU1.out.1.trans (HD6.out.mono (by omega)), by have := HD6.out.size; omega⟩
  have HA6 : Hid (UsesAt p.nodes nm w.heap.size (w.heap.size + 1) na N nc (w.heap.size + 2) w6) :=
    ⟨(HD6.out.cell (p := ⟨w.heap.size, 0, none⟩) hwl).trans HU1.out.2.2.1, (HD6.out.cell (p := ⟨w.heap.size + 1, 0, none⟩) (by show _ < _; simp only; omega)).trans HU1.out.2.2.2.2, (HV.out.1.keep HB6.out.1).up (by omega), by omega, by omega⟩
  have hln : (A ++ C).length ≤ 2097152 := by
    have := HX.out
    have := HY.out
    rw [List.length_append]
    omega
  have cSort := sortI_any (w.heap.size + 2) ra rn rc (A ++ C) w6 HO6.out (by omega)
  have hln2 := List.length_mergeSort (le := fun x y : Int => decide (x ≤ y)) (A ++ C)
  have hcs := compact_sort A C
  obtain ⟨zs, hzs⟩ : ∃ zs, Hid (((A ++ C).mergeSort fun x y => decide (x ≤ y)) = zs) := ⟨_, (rfl : ((A ++ C).mergeSort fun x y => decide (x ≤ y)) = _)⟩
  rw [hzs.out] at cSort hln2 hcs
  have HCS : Hid (Lib.compact zs = allL A C ∧ zs.length ≤ 2097152) := ⟨hcs, by omega⟩
  have HS : Hid (Calls Tryz.prog 36 #[.slice ra rn rc] w6 fun e w' => e = .returned (.tuple #[]) ∧ OwnsI w' (w.heap.size + 2) (.slice ra rn rc) zs ∧ w6.grownBy w' (Value.slice ra rn rc).ownBlock) := cSort
  clear z0 z1 z3 z4 t0 t1 t3 t4 y0 y1 y3 y4 q0 q1 q3 q4 x0 x1 e3 e4 hb3 hb5 hb6 hos hot hor hoA hoC hd0 hd1 hpbz hn5 hl50 hl5b hl30 hl3b HB3 HD6 HU1 cC cUA cUC cSort hln2 hcs hzs
  go_wp2_with fail
  go_at_call 36
  refine Calls.mono HS.out ?_
  rintro e w7 ⟨rfl, ho7, hg7⟩
  have HB7 : Hid (Below (w.heap.size + 2) w6 w7) := (Below.refl _ _).grown hg7 HB6.out.2 (fun k hk => (OwnsR.lt HO6.out k (by simp [fpOf, hk])).1)
  have cCo := compactI_any (w.heap.size + 2) ra rn rc zs w7 ho7 (by have := HCS.out.2; omega)
  rw [HCS.out.1] at cCo
  have HO7 : Hid (OwnsI w7 (w.heap.size + 2) (.slice ra rn rc) zs) := ho7
  obtain ⟨L, hL⟩ : ∃ L, Hid ((allL A C).length = L) := ⟨_, (rfl : (allL A C).length = (allL A C).length)⟩
  rw [hL.out] at cCo
  have HCo : Hid (Calls Tryz.prog 37 #[.slice ra rn rc] w7 fun e w' => e = .returned (.slice ra L rc) ∧ OwnsI w' (w.heap.size + 2) (.slice ra L rc) (allL A C) ∧ w7.grownBy w' (Value.slice ra rn rc).ownBlock) := cCo
  clear ho7 hg7 HS cCo
  go_wp2_with fail
  go_at_call 37
  refine Calls.mono HCo.out ?_
  rintro e w8 ⟨rfl, ho8, hg8⟩
  have HB8 : Hid (Below (w.heap.size + 2) w6 w8) := HB7.out.trans ((Below.refl _ _).grown hg8 (Nat.le_trans HB6.out.2 HB7.out.size) (fun k hk => (OwnsR.lt HO7.out k (by simp [fpOf, hk])).1))
  have HDe : Hid (Calls Tryz.prog 38 #[.slice ra L rc, .func (.func 39) #[] #[.pointer (some ⟨w.heap.size, 0, none⟩), .pointer (some ⟨w.heap.size + 1, 0, none⟩)]] w8 fun e w' => (∃ b m c, e = .returned (.slice b m c) ∧ OwnsI w' (w.heap.size + 2) (.slice b m c) (usesF p.nodes nm (allL A C))) ∧ Below (w.heap.size + 2) w8 w') :=
    deleteI_any p.nodes nm w.heap.size (w.heap.size + 1) na N nc (w.heap.size + 2) ra L rc (allL A C) w8 (HA6.out.keep HB8.out) (Nat.le_trans HB6.out.2 HB8.out.size) ho8 HIn.out (by
      have h1 := allL_len A C
      rw [List.length_append] at hln
      omega)
  clear ho8 hg8 HCo HB7 HO7
  go_wp2_with fail
  go_at_call 38
  refine Calls.mono HDe.out ?_
  rintro e w9 ⟨⟨da, dn, dc, rfl, ho9⟩, hb9⟩
  have HZ : Hid (OwnsI w9 w.heap.size (.slice da dn dc) (usesF p.nodes nm (allL A C)) ∧ Below w.heap.size w w9) := ⟨owns_base ho9 (by omega), HB6.out.1.trans ((HB8.out.trans hb9).mono (by omega))⟩
  clear ho9 hb9 HDe HB8
  go_wp2
  go_ret
  exact ⟨⟨_, _, _, rfl, HZ.out.1⟩, HZ.out.2⟩

end Go.Proofs.YtjafneaaefpefaaGreat
