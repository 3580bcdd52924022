/-
  Chapter 2, plainly: a sealed text with one byte turned is no sealed text. No program, no world.
-/
import Derived.Test.YtmmdpgjgfbhkhaaDoorPlain6
namespace Go.Proofs.YtmmdpgjgfbhkhaaDoor

/-- The four bytes of a sum. -/
def fourU (x : Nat) : List UInt8 := (four x).map fun n => UInt8.ofNat n.toNat
theorem fourU_len (x : Nat) : (fourU x).length = 4 := by simp [fourU, four]
theorem ofNat_inj {a b : Int} (ha : 0 ≤ a ∧ a < 256) (hb : 0 ≤ b ∧ b < 256) (h : UInt8.ofNat a.toNat = UInt8.ofNat b.toNat) : a = b := by
  have := congrArg UInt8.toNat h
  simp only [UInt8.toNat_ofNat'] at this
  omega
theorem fourU_inj {x y : Nat} (hx : x < 4294967296) (hy : y < 4294967296) (h : fourU x = fourU y) : x = y := by
  simp only [fourU, four, List.map_cons, List.map_nil, List.cons.injEq, and_true] at h
  obtain ⟨h1, h2, h3, h4⟩ := h
  have e1 := ofNat_inj (by omega) (by omega) h1
  have e2 := ofNat_inj (by omega) (by omega) h2
  have e3 := ofNat_inj (by omega) (by omega) h3
  have e4 := ofNat_inj (by omega) (by omega) h4
  omega

/-- A sealed row of bytes. -/
def sealL (l : List UInt8) : List UInt8 := l ++ fourU (sumL 4294967295 l)
theorem sealL_len (l : List UInt8) : (sealL l).length = l.length + 4 := by simp [sealL, fourU_len]

theorem sealL_far (S A : List UInt8) (i : Nat) (z : UInt8) (hl : A.length = S.length) (hi : i < S.length + 4) (hz : (sealL S)[i]? ≠ some z) : (sealL S).set i z ≠ sealL A := by
  intro he
  unfold sealL at he hz
  by_cases h : i < S.length
  · rw [List.set_append_left _ _ h] at he
    obtain ⟨e1, e2⟩ := List.append_inj he (by simp [hl])
    have e3 := fourU_inj (sumL_lt S (by omega)) (sumL_lt A (by omega)) e2
    rw [List.getElem?_append_left h, List.getElem?_eq_getElem h] at hz
    have hs : S = S.take i ++ S[i] :: S.drop (i + 1) := by simp
    have ha : A = S.take i ++ z :: S.drop (i + 1) := by rw [← e1, List.set_eq_take_append_cons_drop, if_pos h]
    exact sumL_turned (s := 4294967295) (by omega) (S.take i) (S.drop (i + 1)) (b := S[i]) (c := z) (fun e => hz (by rw [e])) (by rw [← hs, ← ha]; exact e3)
  · rw [List.set_append_right _ _ (by omega)] at he
    obtain ⟨e1, e2⟩ := List.append_inj he hl.symm
    subst e1
    rw [List.getElem?_append_right (by omega)] at hz
    apply hz
    rw [← e2, List.getElem?_set_self (by rw [fourU_len]; omega)]

end Go.Proofs.YtmmdpgjgfbhkhaaDoor
