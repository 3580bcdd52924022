/-
  SignsOf: the program's answers are the model's, at every text; an answer owns its memory.
-/
import Derived.Test.YtbanmldmdoedkaaDoorMarkSg
import Derived.Test.YtbanmldmdoedkaaDoorSignsI
namespace Go.Proofs.YtbanmldmdoedkaaDoor
open Go.RowKit

theorem specSignsOf_any (t : ByteArray) (w : World) :
    Calls Tryd.prog 5 #[.string t] w fun e w' => ∃ v, e = .returned (.tuple #[v, .bool (signsOf t).2]) ∧ OwnsSg w' w.heap.size v (signsOf t).1 ∧ Below w.heap.size w w' := by
  by_cases h : 3000 < t.size
  · exact specSignsOf_long t w h
  · exact specSignsOf_short t w (by omega)

/-- Rows that two calls made lie apart. -/
theorem apart_blocks {w w' : World} {B B' : Nat} {v v' : Value} {ss ss' : List Sg} (h : OwnsSg w B v ss) (h' : OwnsSg w' B' v' ss') (hB : w.heap.size ≤ B') : v.ownBlock = none ∨ v.ownBlock ≠ v'.ownBlock := by
  cases hv : v.ownBlock with
  | none => exact .inl rfl
  | some k =>
    refine .inr (fun e => ?_)
    have h1 := (World.ownsRow.lt h k hv).2
    have h2 := (World.ownsRow.lt h' k e.symm).1
    omega

set_option maxHeartbeats 1600000 in
theorem lawSignsOfT (t : ByteArray) (w : World) (hd : DoorOk w) :
    Calls Tryd.prog 3 #[.string t] w fun e w' => e = .returned (.bool true) ∧ Below w.heap.size w w' := by
  have Hd : Hid (DoorOk w) := hd
  clear hd
  by_cases hbig : 1048576 < t.size
  · go_enter Tryd.func3, Tryd.ntmps3
    go_wp2
    go_ret
    exact ⟨rfl, Below.refl _ _⟩
  obtain ⟨S, HS⟩ : ∃ S, Hid ((signsOf t).1 = S) := ⟨_, (rfl : (signsOf t).1 = (signsOf t).1)⟩
  obtain ⟨b, HB⟩ : ∃ b, Hid ((signsOf t).2 = b) := ⟨_, (rfl : (signsOf t).2 = (signsOf t).2)⟩
  have hSl : S.length ≤ 3000 := by rw [← HS.out]; exact signsOf_len t
  have cs : Hid (∀ wx, Calls Tryd.prog 5 #[.string t] wx fun e w' => ∃ v, e = .returned (.tuple #[v, .bool b]) ∧ OwnsSg w' wx.heap.size v S ∧ Below wx.heap.size wx w') := fun wx => by
    have := specSignsOf_any t wx
    rw [HS.out, HB.out] at this
    exact this
  have ci : Hid (∀ wx, DoorOk wx → Calls Tryd.prog 6 #[.string t] wx fun e w' => ∃ v, e = .returned (.tuple #[v, .bool b]) ∧ OwnsSg w' wx.heap.size v S ∧ Below wx.heap.size wx w') := fun wx hx => by
    have := implSignsOf_any t wx (by omega) hx
    rw [HS.out, HB.out] at this
    exact this
  go_enter Tryd.func3, Tryd.ntmps3
  go_wp2_with fail
  go_at_call 5
  refine Calls.mono (cs.out _) ?_
  rintro e w1 ⟨vs, rfl, hs1, hb1⟩
  have H1 : Hid (OwnsSg w1 w.heap.size vs S ∧ Below w.heap.size w w1) := ⟨hs1, hb1⟩
  clear hs1 hb1
  have D1 : Hid (DoorOk w1) := Hd.out.below H1.out.2
  go_wp2_with fail
  go_at_call 6
  refine Calls.mono (ci.out _ D1.out) ?_
  rintro e w2 ⟨vi, rfl, hi2, hb2⟩
  have H2 : Hid (OwnsSg w2 w1.heap.size vi S ∧ OwnsSg w2 w.heap.size vs S ∧ Below w.heap.size w w2 ∧ (vs.ownBlock = none ∨ vs.ownBlock ≠ vi.ownBlock)) := ⟨hi2, OwnsR.below H1.out.1 hb2, H1.out.2.trans (hb2.mono H1.out.2.size), apart_blocks H1.out.1 hi2 (Nat.le_refl _)⟩
  have hz1 := H1.out.2.size
  have hz2 := hb2.size
  clear hi2 hb2 H1
  go_wp2_with fail
  go_at_call 7
  refine (eqSignS_same w2.heap.size _ _ S _ (Nat.le_refl _) H2.out.1.row H2.out.2.1.row (by omega)).mono ?_
  rintro e w3 ⟨rfl, hb3⟩
  have H3 : Hid (OwnsSg w3 w1.heap.size vi S ∧ OwnsSg w3 w.heap.size vs S ∧ Below w.heap.size w w3 ∧ (vs.ownBlock = none ∨ vs.ownBlock ≠ vi.ownBlock)) := ⟨OwnsR.below H2.out.1 hb3, OwnsR.below H2.out.2.1 hb3, H2.out.2.2.1.trans (hb3.mono (by omega)), H2.out.2.2.2⟩
  have hz3 := hb3.size
  clear hb3 H2
  go_wp2_with fail
  go_at_call 8
  refine (markSignS_any w1.heap.size _ 1 S _ (by omega) (by omega) (by omega) H3.out.1).mono ?_
  rintro e w4 ⟨rfl, hi4, hg4⟩
  have H4 : Hid (OwnsSg w4 w1.heap.size vi (marksSg 1 S.length) ∧ OwnsSg w4 w.heap.size vs S ∧ Below w.heap.size w w4 ∧ (vs.ownBlock = none ∨ vs.ownBlock ≠ vi.ownBlock)) := ⟨hi4, OwnsR.kept H3.out.2.1 hg4 H3.out.2.2.2, H3.out.2.2.1.grown hg4 (by omega) (fun k hk => Nat.le_trans hz1 (World.ownsRow.lt H3.out.1 k hk).1), H3.out.2.2.2⟩
  have hz4 := hg4.size
  clear hi4 hg4 H3
  go_wp2_with fail
  go_at_call 9
  refine (heldSignS_any w1.heap.size _ 1 S.length _ (by omega) (by omega) (by omega) H4.out.1).mono ?_
  rintro e w5 ⟨rfl, hb5⟩
  have H5 : Hid (OwnsSg w5 w1.heap.size vi (marksSg 1 S.length) ∧ OwnsSg w5 w.heap.size vs S ∧ Below w.heap.size w w5) := ⟨OwnsR.below H4.out.1 hb5, OwnsR.below H4.out.2.1 hb5, H4.out.2.2.1.trans (hb5.mono (by omega))⟩
  have hz5 := hb5.size
  clear hb5 H4
  have D5 : Hid (DoorOk w5) := Hd.out.below H5.out.2.2
  go_wp2_with fail
  go_at_call 6
  refine Calls.mono (ci.out _ D5.out) ?_
  rintro e w6 ⟨vh, rfl, hh6, hb6⟩
  have H6 : Hid (OwnsSg w6 w5.heap.size vh S ∧ OwnsSg w6 w1.heap.size vi (marksSg 1 S.length) ∧ OwnsSg w6 w.heap.size vs S ∧ Below w.heap.size w w6) := ⟨hh6, OwnsR.below H5.out.1 hb6, OwnsR.below H5.out.2.1 hb6, H5.out.2.2.trans (hb6.mono (by omega))⟩
  have hz6 := hb6.size
  clear hb6 hh6 H5
  go_wp2_with fail
  go_at_call 7
  refine (eqSignS_same w6.heap.size _ _ S _ (Nat.le_refl _) H6.out.1.row H6.out.2.2.1.row (by omega)).mono ?_
  rintro e w7 ⟨rfl, hb7⟩
  have H7 : Hid (OwnsSg w7 w1.heap.size vi (marksSg 1 S.length) ∧ Below w.heap.size w w7) := ⟨OwnsR.below H6.out.2.1 hb7, H6.out.2.2.2.trans (hb7.mono (by omega))⟩
  have hz7 := hb7.size
  clear hb7 H6
  go_wp2_with fail
  go_at_call 9
  refine (heldSignS_any w1.heap.size _ 1 S.length _ (by omega) (by omega) (by omega) H7.out.1).mono ?_
  rintro e w8 ⟨rfl, hb8⟩
  have H8 : Hid (Below w.heap.size w w8) := H7.out.2.trans (hb8.mono (by omega))
  clear hb8 H7
  go_wp2
  go_ret
  exact ⟨rfl, H8.out⟩

end Go.Proofs.YtbanmldmdoedkaaDoor
