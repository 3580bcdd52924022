/-
  SignsOf, in the program: what it answers at every text; where the table of marks lies as the program's text lays it.
-/
import Derived.Test.YtbanmldmdoedkaaDoorSgOf0
import Derived.Test.YtbanmldmdoedkaaDoorSgSteps
import Derived.Test.YtbanmldmdoedkaaDoorSg
import Derived.Lib.OthersKept
namespace Go.Proofs.YtbanmldmdoedkaaDoor
open Go.RowKit

/-- What the package's variables hold. -/
def DoorOk (w : World) : Prop := MarksOk w
theorem DoorOk.below {w w1 : World} (h : DoorOk w) (hb : Below w.heap.size w w1) : DoorOk w1 := MarksOk.below h hb

theorem implSignsOf_long (t : ByteArray) (w : World) (h : 3000 < t.size) :
    Calls Tryd.prog 6 #[.string t] w fun e w' => ∃ v, e = .returned (.tuple #[v, .bool (signsOf t).2]) ∧ OwnsSg w' w.heap.size v (signsOf t).1 ∧ Below w.heap.size w w' := by
  have hs : signsOf t = ([], false) := by unfold signsOf; rw [if_pos h]
  rw [hs]
  have h' : (3000 : Int) < (t.size : Int) := by omega
  go_enter Tryd.func6, Tryd.ntmps6
  go_wp2
  go_ret2
  exact ⟨_, rfl, ownsR_nil sgC 3 w w.heap.size 35, Below.refl _ _⟩

theorem iterPos_of {W : World} {b : Nat} {s : ByteArray} {p : Nat} (h : W.heap[b]? = some (.stringIter s p)) : W.iterPos b = p := by
  unfold World.iterPos
  rw [h]

theorem tail_data (t : ByteArray) (k : Nat) : (t.extract k t.size).data.toList = t.data.toList.drop k := by
  rw [Lib.extract_data, List.take_of_length_le (by simp)]

set_option maxRecDepth 100000 in
set_option maxHeartbeats 1600000 in
theorem implSignsOf_short (t : ByteArray) (w : World) (h : ¬ 3000 < t.size) (hd : DoorOk w) :
    Calls Tryd.prog 6 #[.string t] w fun e w' => ∃ v, e = .returned (.tuple #[v, .bool (signsOf t).2]) ∧ OwnsSg w' w.heap.size v (signsOf t).1 ∧ Below w.heap.size w w' := by
  have Hd : Hid (MarksOk w) := hd
  clear hd
  have h' : ¬ (3000 : Int) < (t.size : Int) := by omega
  have h3 : t.size ≤ 3000 := by omega
  go_enter Tryd.func6, Tryd.ntmps6
  go_wp2
  go_loopw [4, 5] (fun l b wr => ∃ (k n : Nat) (ss : List Sg) (v : Value), v = l ∧ b = .int .i64 (n : Int) ∧ Hid (St t k n ss) ∧ OwnsR sgC 3 wr (w.heap.size + 1) 35 l ss ∧ wr.heap[w.heap.size]? = some (.stringIter t k) ∧ Hid (Below w.heap.size w wr ∧ w.heap.size + 1 ≤ wr.heap.size)) (fun _ _ wr => t.size - wr.iterPos w.heap.size)
  case atStart => exact ⟨0, 0, [], _, rfl, rfl, St.start t, ownsR_nil sgC 3 _ _ _, World.iter_heap w t 0, ⟨(Below.refl _ _).alloc (Nat.le_refl _) _, by show _ ≤ (w.heap.push _).size; simp⟩⟩
  case round =>
    obtain ⟨k, n, ss, v, rfl, rfl, HS, hown, hit, HW⟩ := hrel
    have hiter : Hid (wr.iterPos w.heap.size = k) := iterPos_of hit
    by_cases hlt : k < t.size
    · obtain ⟨r, q, hrq⟩ : ∃ (r : Int) (q : Nat), Hid (((Utf8.decode t k).1 : Int) = r ∧ (Utf8.decode t k).2 = q) := ⟨_, _, ⟨rfl, rfl⟩⟩
      have hlow : Hid (t[k].toNat < 128 → r = (t[k].toNat : Int) ∧ q = 1) := fun ha => by
        rw [← hrq.out.1, ← hrq.out.2, decode_ascii t k hlt ha]
        exact ⟨rfl, rfl⟩
      have hhigh : Hid (¬ t[k].toNat < 128 → 128 ≤ r ∧ 1 ≤ q) := fun ha => by
        have := decode_high t k hlt (by omega)
        rw [← hrq.out.1, ← hrq.out.2]
        exact ⟨by omega, this.2⟩
      obtain ⟨W1, HW1⟩ : ∃ W1, Hid (wr.iterAt w.heap.size t (k + q) = W1) := ⟨_, (rfl : wr.iterAt w.heap.size t (k + q) = wr.iterAt w.heap.size t (k + q))⟩
      have hnx : ∀ ty, (Instr.next (.pointer (some ⟨w.heap.size, 0, none⟩)) true ty).run Tryd.prog wr = .ok (.tuple #[.bool true, .int .i64 k, .int .i32 r]) W1 := fun ty => by
        rw [← HW1.out, ← hrq.out.1, ← hrq.out.2]
        exact Lib.run_next_any_at wr _ t k ty hit hlt
      have hit1 : Hid (W1.heap[w.heap.size]? = some (.stringIter t (k + q)) ∧ Below w.heap.size w W1 ∧ w.heap.size + 1 ≤ W1.heap.size ∧ OwnsR sgC 3 W1 (w.heap.size + 1) 35 v ss) := by
        rw [← HW1.out]
        exact ⟨Lib.iterAt_heap wr _ t k _ hit, Lib.below_iterAt HW.out.1 (Nat.le_refl _) t _, by rw [Lib.iterAt_size]; exact HW.out.2, hown.kept (row := some w.heap.size) ⟨rfl, rfl, rfl, by rw [Lib.iterAt_size]; exact Nat.le_refl _, fun i _ hi => Lib.iterAt_other wr _ i t _ (fun e => hi (by rw [e]))⟩ (own_ne hown (by omega))⟩
      by_cases hb : k < n
      · have hb' : (k : Int) < (n : Int) := by omega
        obtain ⟨_, rfl⟩ := hlow.out (HS.out.low k hlt (Nat.le_refl _) hb)
        clear hit
        go_wp2
        go_roundw
        case rel => exact ⟨k + 1, n, ss, v, rfl, rfl, HS.out.skip hb, hit1.out.2.2.2, hit1.out.1, hit1.out.2.1, hit1.out.2.2.1⟩
        case measure => rw [hiter.out, iterPos_of hit1.out.1]; omega
      · have hb' : ¬ (k : Int) < (n : Int) := by omega
        by_cases hbl : r = 32 ∨ r = 10
        · have hlo : t[k].toNat < 128 := by
            rcases Nat.lt_or_ge t[k].toNat 128 with h1 | h1
            · exact h1
            · have := (hhigh.out (by omega)).1
              omega
          obtain ⟨hr, rfl⟩ := hlow.out hlo
          have HS1 : Hid (St t (k + 1) n ss) := HS.out.blank hb hlt (by
            rcases hbl with e | e
            · exact .inl (UInt8.toNat.inj (by show t[k].toNat = 32; omega))
            · exact .inr (UInt8.toNat.inj (by show t[k].toNat = 10; omega)))
          clear hit hr hlo
          rcases hbl with rfl | rfl
          · go_wp2
            go_roundw
            case rel => exact ⟨k + 1, n, ss, v, rfl, rfl, HS1, hit1.out.2.2.2, hit1.out.1, hit1.out.2.1, hit1.out.2.2.1⟩
            case measure => rw [hiter.out, iterPos_of hit1.out.1]; omega
          · go_wp2
            go_roundw
            case rel => exact ⟨k + 1, n, ss, v, rfl, rfl, HS1, hit1.out.2.2.2, hit1.out.1, hit1.out.2.1, hit1.out.2.2.1⟩
            case measure => rw [hiter.out, iterPos_of hit1.out.1]; omega
        · have hb1 : ¬ r = 32 := fun e => hbl (.inl e)
          have hb2 : ¬ r = 10 := fun e => hbl (.inr e)
          have HC : Hid (¬ (t[k] = 32 ∨ t[k] = 10)) := by
            rintro (e | e)
            · exact hb1 (by rw [(hlow.out (by rw [e]; decide)).1, e]; rfl)
            · exact hb2 (by rw [(hlow.out (by rw [e]; decide)).1, e]; rfl)
          obtain ⟨s, ln, HA⟩ : ∃ s ln, Hid (aheadOf (t.data.toList.drop k) = (s, ln)) := ⟨_, _, (rfl : aheadOf (t.data.toList.drop k) = _)⟩
          obtain ⟨kd, tx, nm⟩ := s
          have cS : Hid (∀ W, MarksOk W → Calls Tryd.prog 25 #[.string (t.extract k t.size)] W fun e w' => e = .returned (.tuple #[.agg #[.int .i64 kd, .string tx, .int .i64 nm], .int .i64 (ln : Int)]) ∧ Below W.heap.size W w') := fun W hW => signAhead_any _ W hW kd nm tx ln (by rw [tail_data]; exact HA.out)
          have hk0 : (0 : Int) ≤ (k : Int) := by omega
          have hkt : (k : Int) ≤ (t.size : Int) := by omega
          have hssl : ss.length ≤ 3000 := by
            have h1 := HS.out.len
            have h2 := HS.out.ble
            omega
          have Hd1 : Hid (MarksOk W1) := Hd.out.below hit1.out.2.1
          have hb1' : (r == 32) = false := by simpa using hb1
          have hb2' : (r == 10) = false := by simpa using hb2
          clear hit hbl hb1 hb2
          go_wp2_with fail
          go_at_call 25
          refine Calls.mono (cS.out _ Hd1.out) ?_
          rintro e w2 ⟨rfl, hbw2⟩
          have hit2 : Hid (w2.heap[w.heap.size]? = some (.stringIter t (k + q)) ∧ Below w.heap.size w w2 ∧ w.heap.size + 1 ≤ w2.heap.size ∧ OwnsR sgC 3 w2 (w.heap.size + 1) 35 v ss) :=
            ⟨(hbw2.block _ (by have := hit1.out.2.2.1; omega)).trans hit1.out.1, hit1.out.2.1.trans (hbw2.mono (by have := hit1.out.2.2.1; omega)), Nat.le_trans hit1.out.2.2.1 hbw2.size, OwnsR.below hit1.out.2.2.2 hbw2⟩
          have hsz2 : w.heap.size + 1 ≤ w2.heap.size := hit2.out.2.2.1
          clear hbw2 cS
          by_cases hl0 : ln = 0
          · subst hl0
            have HE : Hid (signsOf t = ([], false)) := HS.out.bad h3 hb hlt HC.out (by rw [HA.out])
            have HBW : Hid (Below w.heap.size w w2) := hit2.out.2.1
            clear hit2 hit1
            go_wp2
            go_ret2
            rw [HE.out]
            have := HBW.out
            exact ⟨_, rfl, ownsR_nil sgC 3 _ w.heap.size 35, by go_grown⟩
          · have hl0' : ¬ (ln : Int) = 0 := by omega
            obtain ⟨HS1, hlo, hle⟩ := HS.out.sign hb hlt HC.out HA.out hl0
            have HS2 : Hid (St t (k + 1) (k + ln) (ss ++ [⟨kd, tx, nm⟩])) := HS1
            obtain ⟨_, rfl⟩ := hlow.out hlo
            have hownAt : Hid (∀ W, Below w2.heap.size w2 W → OwnsR sgC 3 W (w.heap.size + 1) 35 v ss) := fun W hW => OwnsR.below hit2.out.2.2.2 hW
            have hwk : IntKind.i64.wrap ((k : Int) + (ln : Int)) = (k : Int) + (ln : Int) := IntWalk.i64_in _ ⟨by omega, by omega⟩
            clear HS1 hlo hit1
            go_wp2_with (at_builtin; go_must (refine appendR sgC_len rfl _ _ 22 rfl (w.heap.size + 1) 35 _ 32 Tryd.underlying22 Tryd.infoSg rfl (by decide) (hownAt.out _ (by go_grown)) ⟨kd, tx, nm⟩ (sgC_ones _) rfl (by first | rfl | (simp [Act.eval]; done)) (by omega) (by omega) (by go_size) ?_); intro v4 w4 hown4 hb4 hs4 hg4)
            have hbW : Below (w.heap.size + 1) w2 w4 := hb4 w2 ((Below.refl _ _).alloc hsz2 _)
            have hit4 : w4.heap[w.heap.size]? = some (.stringIter t (k + 1)) := (hbW.block _ (by omega)).trans hit2.out.1
            refine ⟨⟨k + 1, k + ln, ss ++ [⟨kd, tx, nm⟩], v4, rfl, by simp, HS2, hown4, hit4, hit2.out.2.1.trans (hbW.mono (Nat.le_succ _)), Nat.le_trans hsz2 hbW.size⟩, ?_⟩
            rw [hiter.out, iterPos_of hit4]
            omega
    · have hnx : ∀ ty, (Instr.next (.pointer (some ⟨w.heap.size, 0, none⟩)) true ty).run Tryd.prog wr = .ok (.tuple #[.bool false]) wr := fun ty => Lib.run_next_end_at wr _ t k ty hit hlt
      have he : Hid (signsOf t = (ss, true)) := HS.out.end h3 hlt
      clear hit
      go_wp2
      (try rw [Exit.noGoto_ret])
      go_ret2
      rw [he.out]
      exact ⟨_, rfl, owns_base hown (by omega), HW.out.1⟩

theorem implSignsOf_any (t : ByteArray) (w : World) (_ : t.size ≤ 1048576) (hd : DoorOk w) :
    Calls Tryd.prog 6 #[.string t] w fun e w' => ∃ v, e = .returned (.tuple #[v, .bool (signsOf t).2]) ∧ OwnsSg w' w.heap.size v (signsOf t).1 ∧ Below w.heap.size w w' := by
  by_cases h : 3000 < t.size
  · exact implSignsOf_long t w h
  · exact implSignsOf_short t w h hd

end Go.Proofs.YtbanmldmdoedkaaDoor
