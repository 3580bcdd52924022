/-
  ShowValue, in the model: what it answers at every program and every place.
-/
import Derived.Test.YtbanmldmdoedkaaGreatDoorShowS
namespace Go.Proofs.YtbanmldmdoedkaaGreatDoor
open Go.RowKit

/-- What ShowValue answers. -/
def showVal (ns : List Nd) (k : Int) : List UInt8 := if deepOf ns k = 0 then [] else if isVal (ns.getD k.toNat nd0).kind = true then valL ns k else []
theorem deep_inside {ns : List Nd} {k : Int} (h : deepOf ns k ≠ 0) : 0 ≤ k ∧ k < (ns.length : Int) := by
  by_cases h1 : k < 0 ∨ (ns.length : Int) ≤ k
  · exact absurd (deepOf_out h1) h
  · omega

set_option maxRecDepth 100000 in
set_option maxHeartbeats 3200000 in
theorem specShowValue_any (v0 v1 : Value) (ns : List Nd) (k : Int) (w : World) (hR : NdR.Row w w.heap.size v0 ns) (hl : szRow szNd ns ≤ 1048576) (L : List UInt8) (hL : Hid (showVal ns k = L)) :
    Calls Tryz.prog 20 #[.agg #[v0, v1], .int .i64 k] w (Tells L w) := by
  obtain ⟨na, nc, rfl⟩ := hR.len
  obtain ⟨N, HN⟩ : ∃ N, Hid (ns.length = N) := ⟨_, (rfl : ns.length = ns.length)⟩
  have HV : Hid (NdR.Row w w.heap.size (.slice na N nc) ns) := by rw [← HN.out]; exact hR
  have HL : Hid (szRow szNd ns ≤ 1048576) := hl
  rw [HN.out]
  obtain ⟨d, hd⟩ : ∃ d, Hid (deepOf ns k = d) := ⟨_, (rfl : deepOf ns k = deepOf ns k)⟩
  have cD : Hid (∀ W, Below w.heap.size w W → Calls Tryz.prog 49 #[.slice na N nc, .int .i64 k] W fun e w' => e = .returned (.int .i64 d) ∧ Below W.heap.size W w') := fun W hW => by
    rw [← hd.out]
    exact specDeepOf_any _ ns _ W ((HV.out.keep hW).up hW.size) HL.out
  clear hR hl
  go_enter Tryz.func20, Tryz.ntmps20
  go_wp2_with fail
  go_at_call 49
  refine Calls.mono (cD.out _ (by go_grown)) ?_
  rintro e w1 ⟨rfl, hb1⟩
  have B1 : Hid (Box w (.cells #[.slice na N nc, v1] 27) w1) := (Box.first _ _).next hb1
  clear hb1 cD
  by_cases hdz : d = 0
  · have HE : Hid (txt L = ⟨#[]⟩) := by show _ = _; rw [← hL.out]; unfold showVal; rw [if_pos (by rw [hd.out]; exact hdz)]; rfl
    subst hdz
    go_wp2
    go_ret
    exact ⟨by rw [HE.out]; rfl, B1.out.below⟩
  have hne : deepOf ns k ≠ 0 := by rw [hd.out]; exact hdz
  have hkb := deep_inside hne
  rw [HN.out] at hkb
  obtain ⟨m, rfl⟩ : ∃ m : Nat, k = (m : Int) := ⟨k.toNat, by omega⟩
  have hm : m < N := by omega
  have hml : m < ns.length := by rw [HN.out]; exact hm
  have hd1 : (d == 0) = false := by simpa using hdz
  have hm0 : (0 : Int) ≤ (m : Int) := by omega
  have hm1 : (m : Int) < (N : Int) := by omega
  obtain ⟨b, off, ka, kc, rfl, hb, e0, _, _, _, _⟩ := RowNd.at HV.out m hml
  obtain ⟨kd, hkd⟩ : ∃ kd, Hid (ns[m].kind = kd) := ⟨_, (rfl : ns[m].kind = ns[m].kind)⟩
  rw [hkd.out] at e0
  have HK : Hid ((ns.getD m nd0).kind = kd) := by show _ = _; rw [← hkd.out]; simp [List.getD, hml]
  have HL2 : Hid (L = if isVal kd = true then valL ns (m : Int) else []) := by
    show _ = _
    rw [← hL.out]
    unfold showVal
    rw [if_neg hne, Int.toNat_natCast, HK.out]
  have p0 := B1.out.cell 0
  simp at p0
  have f0 := (B1.out.below.cell (p := ⟨b, off + m * 4, none⟩) hb).trans e0
  have HNE : Hid (deepOf ns (m : Int) ≠ 0) := hne
  clear hne hkb e0
  cases hv : isVal kd
  · have HE : Hid (txt L = ⟨#[]⟩) := by show _ = _; rw [HL2.out, hv]; rfl
    go_wp2_with (go_at_call 53; refine (l04Value_is _ _).mono ?_; rintro e w2 ⟨rfl, hw1⟩; have hw2 := hw1.symm; subst hw2; rw [hv])
    go_ret
    exact ⟨by rw [HE.out]; rfl, B1.out.below⟩
  · have HE : Hid (L = valL ns (m : Int)) := by show _ = _; rw [HL2.out, hv]; rfl
    have cV : Hid (Calls Tryz.prog 30 #[.slice (some ⟨b, off, none⟩) N nc, .int .i64 (m : Int)] w1 (Tells L w1)) := by
      rw [HE.out]
      exact l06Value_any _ N nc m w.heap.size ns HN hm HNE m (Nat.le_refl _) (by rw [HK.out]; exact hv) w1 (Nat.le_of_lt B1.out.lt) (HV.out.keep B1.out.below)
    go_wp2_with (first | (go_at_call 53; refine (l04Value_is _ _).mono ?_; rintro e w2 ⟨rfl, hw1⟩; have hw2 := hw1.symm; subst hw2; rw [hv]) | (go_at_call 30; refine Calls.mono cV.out ?_; rintro e w2 ⟨rfl, hb2⟩))
    go_ret
    exact ⟨rfl, B1.out.below.trans (hb2.mono (Nat.le_of_lt B1.out.lt))⟩

end Go.Proofs.YtbanmldmdoedkaaGreatDoor
