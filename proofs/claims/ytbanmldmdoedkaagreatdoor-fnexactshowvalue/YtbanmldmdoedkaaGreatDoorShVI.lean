/-
  ShowValue, in the program: what it answers at every program and every place; where the powers of ten lie as the library's text lays them.
-/
import Derived.Test.YtbanmldmdoedkaaGreatDoorShVX
import Derived.Test.YtbanmldmdoedkaaGreatDoorIm
namespace Go.Proofs.YtbanmldmdoedkaaGreatDoor
open Go.RowKit

set_option maxRecDepth 100000 in
set_option maxHeartbeats 3200000 in
theorem implShowValue_any (v0 v1 : Value) (ns : List Nd) (k : Int) (w : World) (hR : NdR.Row w w.heap.size v0 ns) (hl : szRow szNd ns ≤ 1048576) (L : List UInt8) (hL : Hid (showVal ns k = L)) (ht : Tab10 w) :
    Calls Tryz.prog 22 #[.agg #[v0, v1], .int .i64 k] w (Tells L w) := by
  obtain ⟨na, nc, rfl⟩ := hR.len
  obtain ⟨N, HN⟩ : ∃ N, Hid (ns.length = N) := ⟨_, (rfl : ns.length = ns.length)⟩
  have HV : Hid (NdR.Row w w.heap.size (.slice na N nc) ns) := by rw [← HN.out]; exact hR
  have HL : Hid (szRow szNd ns ≤ 1048576) := hl
  have HT : Hid (Tab10 w) := ht
  rw [HN.out]
  obtain ⟨d, hd⟩ : ∃ d, Hid (deepOf ns k = d) := ⟨_, (rfl : deepOf ns k = deepOf ns k)⟩
  have cD : Hid (∀ W, Below w.heap.size w W → Calls Tryz.prog 47 #[.slice na N nc, .int .i64 k] W fun e w' => e = .returned (.int .i64 d) ∧ Below W.heap.size W w') := fun W hW => by
    rw [← hd.out]
    exact implDeepOf_any _ ns _ W ((HV.out.keep hW).up hW.size) HL.out
  clear hR hl ht
  go_enter Tryz.func22, Tryz.ntmps22
  go_wp2_with fail
  go_at_call 47
  refine Calls.mono (cD.out _ (by go_grown)) ?_
  rintro e w1 ⟨rfl, hb1⟩
  have B1 : Hid (Box w (.cells #[.slice na N nc, v1] 27) w1) := (Box.first _ _).next hb1
  clear hb1 cD
  by_cases hdz : d = 0
  · have HE : Hid (txt L = ⟨#[]⟩) := by show _ = _; rw [← hL.out]; unfold showVal; rw [if_pos (by rw [hd.out]; exact hdz)]; rfl
    subst hdz
    go_wp2
    go_ret
    exact ⟨by rw [HE.out]; rfl, B1.out.below⟩
  have hne : deepOf ns k ≠ 0 := by rw [hd.out]; exact hdz
  have hkb := deep_inside hne
  rw [HN.out] at hkb
  obtain ⟨m, rfl⟩ : ∃ m : Nat, k = (m : Int) := ⟨k.toNat, by omega⟩
  have hm : m < N := by omega
  have hml : m < ns.length := by rw [HN.out]; exact hm
  have hd1 : (d == 0) = false := by simpa using hdz
  have hm0 : (0 : Int) ≤ (m : Int) := by omega
  have hm1 : (m : Int) < (N : Int) := by omega
  obtain ⟨b, off, ka, kc, rfl, hb, e0, _, _, _, _⟩ := RowNd.at HV.out m hml
  obtain ⟨kd, hkd⟩ : ∃ kd, Hid (ns[m].kind = kd) := ⟨_, (rfl : ns[m].kind = ns[m].kind)⟩
  rw [hkd.out] at e0
  have HK : Hid ((ns.getD m nd0).kind = kd) := by show _ = _; rw [← hkd.out]; simp [List.getD, hml]
  have HL2 : Hid (L = if isVal kd = true then valL ns (m : Int) else []) := by
    show _ = _
    rw [← hL.out]
    unfold showVal
    rw [if_neg hne, Int.toNat_natCast, HK.out]
  have p0 := B1.out.cell 0
  simp at p0
  have f0 := (B1.out.below.cell (p := ⟨b, off + m * 4, none⟩) hb).trans e0
  have HNE : Hid (deepOf ns (m : Int) ≠ 0) := hne
  clear hne hkb e0
  cases hv : isVal kd
  · have HE : Hid (txt L = ⟨#[]⟩) := by show _ = _; rw [HL2.out, hv]; rfl
    go_wp2_with (go_at_call 56; refine (isValue_any _ _).mono ?_; rintro e w2 ⟨rfl, hw1⟩; have hw2 := hw1.symm; subst hw2; rw [hv])
    go_ret
    exact ⟨by rw [HE.out]; rfl, B1.out.below⟩
  · have HE : Hid (L = valL ns (m : Int)) := by show _ = _; rw [HL2.out, hv]; rfl
    have HB1 : Hid (Below w.heap.size w w1 ∧ w.heap.size ≤ w1.heap.size) := ⟨B1.out.below, Nat.le_of_lt B1.out.lt⟩
    have HLen : Hid (([] : List UInt8).length + L.length ≤ 100000000000000) := by
      show _ ≤ _
      rw [HE.out]
      have h1 := valL_len hml HNE.out m (Nat.le_refl _) (by rw [HK.out]; exact hv)
      have h10 : deepOf ns (m : Int) ≤ 10 := by rw [deepOf_in hml]; exact (deeps_bound ns _ _).2
      have h2 : 4 ^ (deepOf ns (m : Int)).toNat ≤ 4 ^ 10 := Nat.pow_le_pow_right (by omega) (by omega)
      have h3 : (4 : Nat) ^ 10 = 1048576 := by decide
      simp only [List.length_nil]
      omega
    have cV : Hid (Writes Tryz.prog 57 #[.pointer (some ⟨w1.heap.size, 0, none⟩), .int .i64 (m : Int)] w1 w1.heap.size (.slice (some ⟨b, off, none⟩) N nc) L) := by
      rw [HE.out]
      exact lwValue_any _ N nc m w1.heap.size ns w1 _ (rfl : (Value.slice (some ⟨b, off, none⟩) N nc) = _) HN hm HNE ((HV.out.keep HB1.out.1).up HB1.out.2) (HT.out.below HB1.out.1) m (Nat.le_refl _) (by rw [HK.out]; exact hv)
    have S0 : Hid (Stand w1 (w1.alloc (.cells #[.slice (some ⟨b, off, none⟩) N nc, .pointer none, .slice none 0 0] 94)) w1.heap.size (.slice (some ⟨b, off, none⟩) N nc) [] (w1.alloc (.cells #[.slice (some ⟨b, off, none⟩) N nc, .pointer none, .slice none 0 0] 94))) := Stand.first (Lw.fresh w1 _)
    have H0 : Hid (Below w1.heap.size w1 (w1.alloc (.cells #[.slice (some ⟨b, off, none⟩) N nc, .pointer none, .slice none 0 0] 94))) := (Below.refl _ _).alloc (Nat.le_refl _) _
    go_wp2_with (go_at_call 56; refine (isValue_any _ _).mono ?_; rintro e w2 ⟨rfl, hw1⟩; have hw2 := hw1.symm; subst hw2; rw [hv])
    go_at_call 57
    refine Calls.mono (S0.out.call H0.out cV.out HLen.out) ?_
    rintro e w2 ⟨rfl, s2⟩
    have HS : Hid (Below w1.heap.size w1 w2 ∧ Lw w1.heap.size w1.heap.size (.slice (some ⟨b, off, none⟩) N nc) L w2) := ⟨H0.out.trans s2.2.1, s2.1⟩
    clear s2
    go_wp2_with fail
    go_at_call 58
    refine Calls.mono (lwText_any w1.heap.size w1.heap.size _ L _ HS.out.2 HS.out.1.size) ?_
    rintro e w3 ⟨rfl, hb3⟩
    have HF : Hid (Below w.heap.size w w3) := HB1.out.1.trans ((HS.out.1.trans hb3).mono HB1.out.2)
    clear hb3
    go_wp2
    go_ret
    exact ⟨rfl, HF.out⟩

end Go.Proofs.YtbanmldmdoedkaaGreatDoor
