/-
  SignText, in the program: what it answers at signs whose numbers are not below 0; where the powers of ten lie as the library's text lays them.
-/
import Derived.Test.YtbanmldmdoedkaaDoorSg
import Derived.Test.YtbanmldmdoedkaaDoorSgBuild
import Derived.Test.YtbanmldmdoedkaaDoorShelf
import Derived.Test.YtbanmldmdoedkaaDoorSgSign
import Derived.Test.YtbanmldmdoedkaaDoorLawDec
namespace Go.Proofs.YtbanmldmdoedkaaDoor
open Go.RowKit

theorem Bld.fresh (w : World) : Bld w.heap.size w.heap.size [] (w.alloc (.cells #[.pointer none, .slice none 0 0] 46)) :=
  .inl ⟨Nat.le_refl _, .slice none 0 0, heap_alloc_new w _, ⟨by simp [Lib.byteCells], .inl ⟨rfl, rfl⟩⟩, by simp [Value.ownBlock]⟩

/-- A sign's own text, as a text. -/
def sgB (s : Sg) : ByteArray := ⟨(sgT s).toArray⟩

theorem Bld.lt {B b : Nat} {l : List UInt8} {w : World} (h : Bld B b l w) : b < w.heap.size := by
  rcases h with h | h
  · exact h.lt
  · exact h.lt

theorem hlen2 {a b : Nat} (h : a + b ≤ 1000000000) : a + b ≤ 2000000000 := by omega
theorem hlen1 {l sep : List UInt8} {b : Nat} (h : (l ++ sep).length + b ≤ 1000000000) (hs : sep = [32]) : l.length + 1 ≤ 2000000000 := by
  subst hs
  simp at h
  omega

theorem dec_text {kd nm : Int} {tx : ByteArray} {W : World} (h0 : 0 ≤ nm) (h1 : nm ≤ 1000000000) (hk : kd = 2) (hW : Tab10 W) :
    Calls Tryd.prog 32 #[.int .i64 nm] W fun e w' => e = .returned (.string (sgB ⟨kd, tx, nm⟩)) ∧ Below W.heap.size W w' := by
  have := implDecimal_any nm W (by omega) (by omega) hW
  obtain ⟨m, rfl⟩ : ∃ m : Nat, nm = (m : Int) := ⟨nm.toNat, by omega⟩
  have e : (⟨(Lib.itoa (m : Int)).toArray⟩ : ByteArray) = sgB ⟨kd, tx, (m : Int)⟩ := by
    unfold sgB sgT
    simp only [if_pos hk]
    rw [Lib.itoa_nonneg]
    rfl
  rw [e] at this
  exact this

set_option maxRecDepth 100000 in
set_option maxHeartbeats 3200000 in
theorem implSignText_at (B : Nat) (v : Value) (ss : List Sg) (w : World) (hB : B ≤ w.heap.size) (hv : RowSg w B v ss) (hl : ss.length ≤ 1048576) (hn : ∀ s ∈ ss, 0 ≤ s.num ∧ s.num ≤ 1000000000) (ht : (textTo ss ss.length).length ≤ 1000000000) (hd : Tab10 w) :
    Calls Tryd.prog 12 #[v] w fun e w' => e = .returned (.string (signText ss)) ∧ Below w.heap.size w w' := by
  obtain ⟨a, ca, rfl⟩ := hv.len
  obtain ⟨N, HN⟩ : ∃ N, Hid (ss.length = N) := ⟨_, (rfl : ss.length = ss.length)⟩
  have H : Hid (RowSg w B (.slice a N ca) ss) := by rw [← HN.out]; exact hv
  have Hn : Hid (∀ s ∈ ss, 0 ≤ s.num ∧ s.num ≤ 1000000000) := hn
  have Hl : Hid ((textTo ss N).length ≤ 1000000000) := by rw [← HN.out]; exact ht
  have Hd : Hid (Tab10 w) := hd
  have HT : Hid (signText ss = ⟨(textTo ss N).toArray⟩) := by rw [← HN.out]; exact rfl
  rw [HN.out] at hl ⊢
  clear hv hn ht hd
  go_enter Tryd.func12, Tryd.ntmps12
  go_wp2
  go_loopw [8] (fun i wr => ∃ k : Nat, k ≤ N ∧ i = .int .i64 (k : Int) ∧ Hid (Bld w.heap.size w.heap.size (textTo ss k) wr ∧ Below w.heap.size w wr) ∧ w.heap.size < wr.heap.size) (fun i _ => N - (intOf i).toNat)
  case atStart => exact ⟨0, Nat.zero_le _, rfl, ⟨Bld.fresh w, (Below.refl _ _).alloc (Nat.le_refl _) _⟩, by simp⟩
  case round =>
    obtain ⟨k, hk, rfl, HB, hsz⟩ := hrel
    by_cases hlt : k < N
    · have hk1 : (k : Int) < (N : Int) := by omega
      have hk0 : (0 : Int) ≤ (k : Int) := by omega
      have hkl : k < ss.length := by have := HN.out; omega
      obtain ⟨ba, oa, rfl, hba, c0, c1, c2⟩ := H.out.at k hkl
      obtain ⟨q, hq⟩ : ∃ q, Hid (ss[k] = q) := ⟨_, (rfl : ss[k] = ss[k])⟩
      have d0 := (HB.out.2.cell (p := ⟨ba, oa + k * 3, none⟩) (by show ba < _; omega)).trans c0
      have d1 := (HB.out.2.cell (p := ⟨ba, oa + k * 3 + 1, none⟩) (by show ba < _; omega)).trans c1
      have d2 := (HB.out.2.cell (p := ⟨ba, oa + k * 3 + 2, none⟩) (by show ba < _; omega)).trans c2
      rw [hq.out] at d0 d1 d2
      clear c0 c1 c2
      have HG : Hid (ss.getD k sg0 = q) := by show _ = _; rw [← hq.out]; simp [List.getD, hkl]
      have hqn := Hn.out q (by rw [← hq.out]; exact List.getElem_mem hkl)
      have HL : Hid ((textTo ss k).length + ((if k = 0 then [] else [32]) ++ sgT q).length ≤ 1000000000) := by
        have h1 := textTo_le ss (show k + 1 ≤ N by omega)
        have h2 := Hl.out
        simp only [textTo, List.length_append, HG.out] at h1
        show _ ≤ _
        simp only [List.length_append]
        omega
      obtain ⟨kd, tx, nm⟩ := q
      simp only at d0 d1 d2
      obtain ⟨sep, hsep⟩ : ∃ sep : List UInt8, Hid ((if k = 0 then [] else [32]) = sep) := ⟨_, (rfl : (if k = 0 then [] else [32]) = (if k = 0 then ([] : List UInt8) else [32]))⟩
      have HS1 : Hid (textTo ss (k + 1) = (textTo ss k ++ sep) ++ (sgB ⟨kd, tx, nm⟩).data.toList) := by
        rw [← hsep.out]
        show textTo ss k ++ ((if k = 0 then [] else [32]) ++ sgT (ss.getD k sg0)) = _
        rw [HG.out, List.append_assoc]
        exact rfl
      have HL2 : Hid ((textTo ss k ++ sep).length + (sgB ⟨kd, tx, nm⟩).size ≤ 1000000000) := by
        have := HL.out
        rw [hsep.out] at this
        have e : (sgB ⟨kd, tx, nm⟩).size = (sgT ⟨kd, tx, nm⟩).length := by simp [sgB, ByteArray.size]
        show _ ≤ _
        rw [e]
        simp only [List.length_append] at this ⊢
        omega
      clear HL HG
      by_cases hk00 : k = 0
      · have hk0' : ¬ (0 : Int) < (k : Int) := by omega
        have hs0 : sep = [] := by rw [← hsep.out, if_pos hk00]
        have H1 : Hid (Bld w.heap.size w.heap.size (textTo ss k ++ sep) (wr.alloc (.cells #[.int .i64 kd, .string tx, .int .i64 nm] 35)) ∧ Below w.heap.size w (wr.alloc (.cells #[.int .i64 kd, .string tx, .int .i64 nm] 35)) ∧ True) :=
          ⟨by rw [hs0, List.append_nil]; exact HB.out.1.below ((Below.refl _ _).alloc (Nat.le_refl _) _), HB.out.2.alloc (Nat.le_of_lt hsz) _, trivial⟩
        clear hs0 hk00
        by_cases hkind : kd = 2
        · have hkd : (kd == 2) = true := by simpa using hkind
          have HD : Hid (∀ W, Tab10 W → Calls Tryd.prog 32 #[.int .i64 nm] W fun e w' => e = .returned (.string (sgB ⟨kd, tx, nm⟩)) ∧ Below W.heap.size W w') := fun W hW => dec_text hqn.1 hqn.2 hkind hW
          subst hkind
          go_wp2_with fail
          go_at_call 32
          refine Calls.mono (HD.out _ (Hd.out.below H1.out.2.1)) ?_
          rintro e w2 ⟨rfl, hb2⟩
          have H2 : Hid (Bld w.heap.size w.heap.size (textTo ss k ++ sep) w2 ∧ Below w.heap.size w w2) := ⟨H1.out.1.below hb2, H1.out.2.1.trans (hb2.mono H1.out.2.1.size)⟩
          have hz2 : w.heap.size ≤ w2.heap.size := H2.out.2.size
          clear hb2 HD H1
          go_wp2_with fail
          go_at_call 31
          refine Calls.mono (WriteString_any w.heap.size w.heap.size _ _ _ H2.out.1 (hlen2 HL2.out) hz2) ?_
          rintro e w3 ⟨rfl, hB3, hb3, _⟩
          have H3 : Hid (Bld w.heap.size w.heap.size (textTo ss (k + 1)) w3 ∧ Below w.heap.size w w3) := ⟨by rw [HS1.out]; exact hB3, H2.out.2.trans hb3⟩
          have hz3 : w.heap.size < w3.heap.size := Bld.lt H3.out.1
          clear hB3 hb3 H2
          go_wp2
          go_roundw
          case rel => exact ⟨k + 1, by omega, by go_num, H3, hz3⟩
          case measure => simp [intOf]; omega
        · have hkd : (kd == 2) = false := by simpa using hkind
          have HD : Hid (sgB ⟨kd, tx, nm⟩ = tx) := by unfold sgB sgT; rw [if_neg hkind]; exact rfl
          rw [HD.out] at HL2 HS1
          clear hkind
          have hz1 : w.heap.size ≤ (wr.alloc (.cells #[.int .i64 kd, .string tx, .int .i64 nm] 35)).heap.size := H1.out.2.1.size
          go_wp2_with fail
          go_at_call 31
          refine Calls.mono (WriteString_any w.heap.size w.heap.size _ _ _ H1.out.1 (hlen2 HL2.out) hz1) ?_
          rintro e w3 ⟨rfl, hB3, hb3, _⟩
          have H3 : Hid (Bld w.heap.size w.heap.size (textTo ss (k + 1)) w3 ∧ Below w.heap.size w w3) := ⟨by rw [HS1.out]; exact hB3, H1.out.2.1.trans hb3⟩
          have hz3 : w.heap.size < w3.heap.size := Bld.lt H3.out.1
          clear hB3 hb3 H1
          go_wp2
          go_roundw
          case rel => exact ⟨k + 1, by omega, by go_num, H3, hz3⟩
          case measure => simp [intOf]; omega
      · have hk0' : (0 : Int) < (k : Int) := by omega
        have hs0 : sep = [32] := by rw [← hsep.out, if_neg hk00]
        have H0 : Hid (Bld w.heap.size w.heap.size (textTo ss k) (wr.alloc (.cells #[.int .i64 kd, .string tx, .int .i64 nm] 35)) ∧ Below w.heap.size w (wr.alloc (.cells #[.int .i64 kd, .string tx, .int .i64 nm] 35)) ∧ (wr.alloc (.cells #[.int .i64 kd, .string tx, .int .i64 nm] 35)).heap[wr.heap.size]? = some (.cells #[.int .i64 kd, .string tx, .int .i64 nm] 35 (0, 0))) :=
          ⟨HB.out.1.below ((Below.refl _ _).alloc (Nat.le_refl _) _), HB.out.2.alloc (Nat.le_of_lt hsz) _, heap_alloc_new wr _⟩
        have hz0 : w.heap.size ≤ (wr.alloc (.cells #[.int .i64 kd, .string tx, .int .i64 nm] 35)).heap.size := H0.out.2.1.size
        clear hk00
        go_wp2_with fail
        go_at_call 30
        refine Calls.mono (WriteByte_any w.heap.size w.heap.size _ 32 32 _ rfl H0.out.1 (hlen1 HL2.out hs0) hz0) ?_
        rintro e w1 ⟨rfl, hB1, hb1, hk1⟩
        have hblk := hk1 _ _ _ _ (by decide) (by decide) H0.out.2.2
        have e0 : w1.cell? ⟨wr.heap.size, 0, none⟩ = some (.int .i64 kd) := Lib.cell_of_heap hblk 0
        have e1 : w1.cell? ⟨wr.heap.size, 1, none⟩ = some (.string tx) := Lib.cell_of_heap hblk 1
        have e2 : w1.cell? ⟨wr.heap.size, 2, none⟩ = some (.int .i64 nm) := Lib.cell_of_heap hblk 2
        have H1 : Hid (Bld w.heap.size w.heap.size (textTo ss k ++ sep) w1 ∧ Below w.heap.size w w1 ∧ True) := ⟨by rw [hs0]; exact hB1, H0.out.2.1.trans hb1, trivial⟩
        clear hB1 hb1 hk1 hblk H0 hs0 hz0
        by_cases hkind : kd = 2
        · have hkd : (kd == 2) = true := by simpa using hkind
          have HD : Hid (∀ W, Tab10 W → Calls Tryd.prog 32 #[.int .i64 nm] W fun e w' => e = .returned (.string (sgB ⟨kd, tx, nm⟩)) ∧ Below W.heap.size W w') := fun W hW => dec_text hqn.1 hqn.2 hkind hW
          subst hkind
          go_wp2_with fail
          go_at_call 32
          refine Calls.mono (HD.out _ (Hd.out.below H1.out.2.1)) ?_
          rintro e w2 ⟨rfl, hb2⟩
          have H2 : Hid (Bld w.heap.size w.heap.size (textTo ss k ++ sep) w2 ∧ Below w.heap.size w w2) := ⟨H1.out.1.below hb2, H1.out.2.1.trans (hb2.mono H1.out.2.1.size)⟩
          have hz2 : w.heap.size ≤ w2.heap.size := H2.out.2.size
          clear hb2 HD H1
          go_wp2_with fail
          go_at_call 31
          refine Calls.mono (WriteString_any w.heap.size w.heap.size _ _ _ H2.out.1 (hlen2 HL2.out) hz2) ?_
          rintro e w3 ⟨rfl, hB3, hb3, _⟩
          have H3 : Hid (Bld w.heap.size w.heap.size (textTo ss (k + 1)) w3 ∧ Below w.heap.size w w3) := ⟨by rw [HS1.out]; exact hB3, H2.out.2.trans hb3⟩
          have hz3 : w.heap.size < w3.heap.size := Bld.lt H3.out.1
          clear hB3 hb3 H2
          go_wp2
          go_roundw
          case rel => exact ⟨k + 1, by omega, by go_num, H3, hz3⟩
          case measure => simp [intOf]; omega
        · have hkd : (kd == 2) = false := by simpa using hkind
          have HD : Hid (sgB ⟨kd, tx, nm⟩ = tx) := by unfold sgB sgT; rw [if_neg hkind]; exact rfl
          rw [HD.out] at HL2 HS1
          clear hkind
          have hz1 : w.heap.size ≤ w1.heap.size := H1.out.2.1.size
          go_wp2_with fail
          go_at_call 31
          refine Calls.mono (WriteString_any w.heap.size w.heap.size _ _ _ H1.out.1 (hlen2 HL2.out) hz1) ?_
          rintro e w3 ⟨rfl, hB3, hb3, _⟩
          have H3 : Hid (Bld w.heap.size w.heap.size (textTo ss (k + 1)) w3 ∧ Below w.heap.size w w3) := ⟨by rw [HS1.out]; exact hB3, H1.out.2.1.trans hb3⟩
          have hz3 : w.heap.size < w3.heap.size := Bld.lt H3.out.1
          clear hB3 hb3 H1
          go_wp2
          go_roundw
          case rel => exact ⟨k + 1, by omega, by go_num, H3, hz3⟩
          case measure => simp [intOf]; omega
    · have hkN : Hid (k = N) := (by omega : k = N)
      have cS : Hid (∀ W, W = wr → Calls Tryd.prog 33 #[.pointer (some ⟨w.heap.size, 0, none⟩)] W fun e w' => e = .returned (.string (signText ss)) ∧ Below w.heap.size W w') := fun W e => by
        rw [HT.out, ← hkN.out, e]
        exact Tryd.Builder_String_any w.heap.size w.heap.size (textTo ss k) wr HB.out.1 (by omega)
      go_wp2_with fail
      go_at_call 33
      refine Calls.mono (cS.out _ rfl) ?_
      rintro e w2 ⟨rfl, hb2⟩
      go_wp2
      go_ret
      exact ⟨rfl, HB.out.2.trans hb2⟩

end Go.Proofs.YtbanmldmdoedkaaDoor
