/-
  Figures of ten, plainly. No program, no world.
-/
import Derived.Test.YtljphnjmeckpbaaGreatPlain1
import Derived.Lib.ItoaLen
import Derived.Lib.SmallJoins
namespace Go.Proofs.YtljphnjmeckpbaaGreat

/-- The figures of a number that is not 0; none of 0. -/
def digs (u : Nat) : List UInt8 := if u = 0 then [] else Lib.decDigits u
theorem digs_zero : digs 0 = [] := rfl
theorem digs_pos {u : Nat} (h : 0 < u) : digs u = digs (u / 10) ++ [UInt8.ofNat (48 + u % 10)] := by
  unfold digs
  rw [if_neg (by omega)]
  by_cases h1 : u < 10
  · rw [if_pos (by omega), Lib.decDigits_one h1, show u % 10 = u by omega]
    rfl
  · rw [if_neg (by omega), Lib.decDigits, dif_neg h1]
theorem digs_all {u : Nat} (h : 0 < u) : digs u = Lib.decDigits u := if_neg (by omega)
theorem decDigits_le {u : Nat} (h : u < 18446744073709551616) : (Lib.decDigits u).length ≤ 20 := by rw [Lib.decDigits_length]; exact Lib.nDigits_le20 u h

theorem join_fig (x : Int) (S : ByteArray) : (strOfNums [x] ++ S).data.toList = UInt8.ofNat x.toNat :: S.data.toList := by
  rw [Go.Joins.data_append, strOfNums_data]
  rfl
theorem str_eq {S : ByteArray} {l : List UInt8} (h : S.data.toList = l) : S = ⟨l.toArray⟩ := by
  apply ByteArray.ext
  apply Array.toList_inj.1
  rw [h]
theorem step_digs {N u : Nat} {S : ByteArray} (hu : 0 < u) (h : Lib.decDigits N = digs u ++ S.data.toList) (x : Int) (hx : x.toNat = 48 + u % 10) :
    Lib.decDigits N = digs (u / 10) ++ (strOfNums [x] ++ S).data.toList := by
  rw [join_fig, hx, h, digs_pos hu]
  simp
theorem digs_short {N u : Nat} {S : ByteArray} (hN : N < 18446744073709551616) (h : Lib.decDigits N = digs u ++ S.data.toList) : S.size ≤ 20 := by
  have h1 := decDigits_le hN
  rw [h, List.length_append] at h1
  have : S.data.toList.length = S.size := by rw [Array.length_toList]; rfl
  omega

end Go.Proofs.YtljphnjmeckpbaaGreat
