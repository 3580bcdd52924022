/-
  SignText, in the model: what it answers at every row of signs.
-/
import Derived.Test.YtepkcabeoennlaaDoorDec
import Derived.Test.YtepkcabeoennlaaDoorPlain11
import Derived.Test.YtepkcabeoennlaaDoorSigns
namespace Go.Proofs.YtepkcabeoennlaaDoor
open Go.RowKit

/-- A row of signs that can be read: where its cells lie, below B. -/
def RowSg (w : World) (B : Nat) (v : Value) (ss : List Sg) : Prop :=
  ∃ a cap, v = .slice a ss.length cap ∧ (ss = [] ∨ ∃ b off, a = some ⟨b, off, none⟩ ∧ b < B ∧ ∀ i, (hi : i < ss.length) → w.cell? ⟨b, off + i * 3, none⟩ = some (.int .i64 ss[i].kind) ∧ w.cell? ⟨b, off + i * 3 + 1, none⟩ = some (.string ss[i].text) ∧ w.cell? ⟨b, off + i * 3 + 2, none⟩ = some (.int .i64 ss[i].num))
theorem OwnsSg.row {w : World} {B : Nat} {v : Value} {ss : List Sg} (h : OwnsSg w B v ss) : RowSg w w.heap.size v ss := by
  rcases OwnsR.form h with ⟨rfl, rfl⟩ | ⟨g, cap, rfl, hB, hg⟩
  · exact ⟨none, 0, rfl, .inl rfl⟩
  · refine ⟨_, cap, rfl, .inr ⟨g, 0, rfl, hg, fun i hi => ⟨?_, ?_, ?_⟩⟩⟩
    · have := OwnsR.cell sgC_len h rfl i 0 hi (by omega)
      simpa [sgC] using this
    · have := OwnsR.cell sgC_len h rfl i 1 hi (by omega)
      simpa [sgC] using this
    · have := OwnsR.cell sgC_len h rfl i 2 hi (by omega)
      simpa [sgC] using this
theorem RowSg.below {w w' : World} {B : Nat} {v : Value} {ss : List Sg} (h : RowSg w B v ss) (hb : Below B w w') : RowSg w' B v ss := by
  obtain ⟨a, cap, rfl, h⟩ := h
  refine ⟨a, cap, rfl, h.imp id ?_⟩
  rintro ⟨b, off, rfl, hB, h⟩
  refine ⟨b, off, rfl, hB, fun i hi => ?_⟩
  rw [hb.cell (p := ⟨b, off + i * 3, none⟩) hB, hb.cell (p := ⟨b, off + i * 3 + 1, none⟩) hB, hb.cell (p := ⟨b, off + i * 3 + 2, none⟩) hB]
  exact h i hi

theorem bytes_ext3 {l : List UInt8} {D : ByteArray} (h : l = D.data.toList) : (⟨l.toArray⟩ : ByteArray) = D := by
  cases D
  simp at h
  rw [h]
theorem sg_small {D : ByteArray} {q : Sg} {n k : Nat} (hD : D.data.toList = sgT q) (h : n + ((if k = 0 then [] else [32]) ++ sgT q).length ≤ 1000000000) : D.size ≤ 1000000000 := by
  have := tlen D
  rw [hD] at this
  rw [List.length_append] at h
  omega
theorem join_first {S D : ByteArray} {ss : List Sg} {k : Nat} {q : Sg} (hS : S.data.toList = textTo ss k) (hG : ss.getD k sg0 = q) (hD : D.data.toList = sgT q) (h : k = 0) : (S ++ D).data.toList = textTo ss (k + 1) := by
  rw [ByteArray.data_append, Array.toList_append, hS, hD, textTo, hG, if_pos h]
  rfl
theorem join_next {S D : ByteArray} {ss : List Sg} {k : Nat} {q : Sg} (hS : S.data.toList = textTo ss k) (hG : ss.getD k sg0 = q) (hD : D.data.toList = sgT q) (h : ¬ k = 0) : (S ++ ⟨#[32]⟩ ++ D).data.toList = textTo ss (k + 1) := by
  rw [ByteArray.data_append, ByteArray.data_append, Array.toList_append, Array.toList_append, hS, hD, textTo, hG, if_neg h, List.append_assoc]

set_option maxHeartbeats 800000 in
theorem specSignText_any (B : Nat) (v : Value) (ss : List Sg) (w : World) (hB : B ≤ w.heap.size) (hv : RowSg w B v ss) (hl : ss.length ≤ 1048576) (hn : ∀ s ∈ ss, -9223372036854775808 ≤ s.num ∧ s.num ≤ 9223372036854775807) (ht : (textTo ss ss.length).length ≤ 1000000000) :
    Calls Tryd.prog 18 #[v] w fun e w' => e = .returned (.string (signText ss)) ∧ Below w.heap.size w w' := by
  obtain ⟨a, cap, rfl, hv2⟩ := hv
  obtain ⟨N, hN⟩ : ∃ N, ss.length = N := ⟨_, rfl⟩
  have HV : Hid (ss = [] ∨ ∃ b off, a = some ⟨b, off, none⟩ ∧ b < B ∧ ∀ i, (hi : i < ss.length) → w.cell? ⟨b, off + i * 3, none⟩ = some (.int .i64 ss[i].kind) ∧ w.cell? ⟨b, off + i * 3 + 1, none⟩ = some (.string ss[i].text) ∧ w.cell? ⟨b, off + i * 3 + 2, none⟩ = some (.int .i64 ss[i].num)) := hv2
  have HN : Hid (ss.length = N) := hN
  have Hn : Hid (∀ s ∈ ss, -9223372036854775808 ≤ s.num ∧ s.num ≤ 9223372036854775807) := hn
  have Hl : Hid ((textTo ss N).length ≤ 1000000000) := by rw [← hN]; exact ht
  rw [hN] at hl ⊢
  clear hv2 hN hn ht
  go_enter Tryd.func18, Tryd.ntmps18
  go_wp2
  go_loopw [3, 4, 5] (fun s i _ wr => ∃ (k : Nat) (S : ByteArray), k ≤ N ∧ i = .int .i64 (k : Int) ∧ s = .string S ∧ Hid (S.data.toList = textTo ss k) ∧ Below w.heap.size w wr) (fun _ i _ _ => N - (intOf i).toNat)
  case atStart => exact ⟨0, ⟨#[]⟩, Nat.zero_le _, rfl, rfl, rfl, Below.refl _ _⟩
  case round =>
    obtain ⟨k, S, hk, rfl, rfl, HS, hbw⟩ := hrel
    by_cases hlt : k < N
    · have hk1 : (k : Int) < (N : Int) := by omega
      have hk0 : (0 : Int) ≤ (k : Int) := by omega
      have hkl : k < ss.length := by have := HN.out; omega
      rcases HV.out with hv2 | ⟨b, off, rfl, hbB, hv2⟩
      · rw [hv2] at hkl
        simp at hkl
      obtain ⟨c0, c1, c2⟩ := hv2 k hkl
      have d0 := (hbw.cell (p := ⟨b, off + k * 3, none⟩) (by show b < _; omega)).trans c0
      have d1 := (hbw.cell (p := ⟨b, off + k * 3 + 1, none⟩) (by show b < _; omega)).trans c1
      have d2 := (hbw.cell (p := ⟨b, off + k * 3 + 2, none⟩) (by show b < _; omega)).trans c2
      clear c0 c1 c2 hv2
      obtain ⟨q, hq⟩ : ∃ q, Hid (ss[k] = q) := ⟨_, (rfl : ss[k] = ss[k])⟩
      rw [hq.out] at d0 d1 d2
      have HG : Hid (ss.getD k sg0 = q) := by show _ = _; rw [← hq.out]; simp [List.getD, hkl]
      have hqn := Hn.out q (by rw [← hq.out]; exact List.getElem_mem hkl)
      have HL : Hid ((textTo ss k).length + ((if k = 0 then [] else [32]) ++ sgT q).length ≤ 1000000000) := by
        have h1 := textTo_le ss (show k + 1 ≤ N by omega)
        have h2 := Hl.out
        simp only [textTo, List.length_append, HG.out] at h1
        show _ ≤ _
        simp only [List.length_append]
        omega
      have hS : S.size ≤ 1000000000 := by have h1 := tlen S; have h2 := HL.out; rw [HS.out] at h1; omega
      by_cases hk00 : k = 0
      · have hk0' : ¬ (0 : Int) < (k : Int) := by omega
        have HK0 : Hid (k = 0) := hk00
        clear hk00
        have hD32 : (⟨#[32]⟩ : ByteArray).size = 1 := rfl
        by_cases hkind : q.kind = 2
        · have hkd : (q.kind == 2) = true := by simpa using hkind
          by_cases hneg : q.num < 0
          · obtain ⟨D, HD⟩ : ∃ D : ByteArray, Hid (D.data.toList = sgT q) := ⟨⟨(sgT q).toArray⟩, (rfl : (⟨(sgT q).toArray⟩ : ByteArray).data.toList = sgT q)⟩
            have hDs : D.size ≤ 1000000000 := sg_small HD.out HL.out
            have c : Hid (∀ wx, Calls Tryd.prog 39 #[.int .i64 0] wx fun e w' => e = .returned (.string D) ∧ Below wx.heap.size wx w') := fun wx => by
              have := specDecimal_any 0 wx (by omega) (by omega)
              rw [show (⟨(Lib.itoa 0).toArray⟩ : ByteArray) = D from bytes_ext3 (by rw [HD.out]; unfold sgT; rw [if_pos hkind, show q.num.toNat = 0 by omega]; exact Lib.itoa_nonneg 0)] at this
              exact this
            go_wp2_with (go_at_call 39; refine Calls.mono (c.out _) ?_; rintro e w2 ⟨rfl, hb2⟩)
            go_roundw
            case rel => exact ⟨k + 1, S ++ D, by omega, by go_num, rfl, join_first HS.out HG.out HD.out HK0.out, hbw.trans (hb2.mono hbw.size)⟩
            case measure => simp [intOf]; omega
          · obtain ⟨D, HD⟩ : ∃ D : ByteArray, Hid (D.data.toList = sgT q) := ⟨⟨(sgT q).toArray⟩, (rfl : (⟨(sgT q).toArray⟩ : ByteArray).data.toList = sgT q)⟩
            have hDs : D.size ≤ 1000000000 := sg_small HD.out HL.out
            have c : Hid (∀ wx, Calls Tryd.prog 39 #[.int .i64 q.num] wx fun e w' => e = .returned (.string D) ∧ Below wx.heap.size wx w') := fun wx => by
              have := specDecimal_any q.num wx (by omega) (by omega)
              rw [show (⟨(Lib.itoa q.num).toArray⟩ : ByteArray) = D from bytes_ext3 (by rw [HD.out]; unfold sgT Lib.itoa; rw [if_pos hkind, if_neg hneg])] at this
              exact this
            go_wp2_with (go_at_call 39; refine Calls.mono (c.out _) ?_; rintro e w2 ⟨rfl, hb2⟩)
            go_roundw
            case rel => exact ⟨k + 1, S ++ D, by omega, by go_num, rfl, join_first HS.out HG.out HD.out HK0.out, hbw.trans (hb2.mono hbw.size)⟩
            case measure => simp [intOf]; omega
        · have hkd : (q.kind == 2) = false := by simpa using hkind
          obtain ⟨D, HDt⟩ : ∃ D : ByteArray, Hid (q.text = D) := ⟨_, (rfl : q.text = q.text)⟩
          have HD : Hid (D.data.toList = sgT q) := by show _ = _; rw [← HDt.out]; unfold sgT; rw [if_neg hkind]
          have hDs : D.size ≤ 1000000000 := sg_small HD.out HL.out
          rw [HDt.out] at d1
          go_wp2
          go_roundw
          case rel => exact ⟨k + 1, S ++ D, by omega, by go_num, rfl, join_first HS.out HG.out HD.out HK0.out, hbw⟩
          case measure => simp [intOf]; omega
      · have hk0' : (0 : Int) < (k : Int) := by omega
        have hD32 : (⟨#[32]⟩ : ByteArray).size = 1 := rfl
        by_cases hkind : q.kind = 2
        · have hkd : (q.kind == 2) = true := by simpa using hkind
          by_cases hneg : q.num < 0
          · obtain ⟨D, HD⟩ : ∃ D : ByteArray, Hid (D.data.toList = sgT q) := ⟨⟨(sgT q).toArray⟩, (rfl : (⟨(sgT q).toArray⟩ : ByteArray).data.toList = sgT q)⟩
            have hDs : D.size ≤ 1000000000 := sg_small HD.out HL.out
            have c : Hid (∀ wx, Calls Tryd.prog 39 #[.int .i64 0] wx fun e w' => e = .returned (.string D) ∧ Below wx.heap.size wx w') := fun wx => by
              have := specDecimal_any 0 wx (by omega) (by omega)
              rw [show (⟨(Lib.itoa 0).toArray⟩ : ByteArray) = D from bytes_ext3 (by rw [HD.out]; unfold sgT; rw [if_pos hkind, show q.num.toNat = 0 by omega]; exact Lib.itoa_nonneg 0)] at this
              exact this
            go_wp2_with (go_at_call 39; refine Calls.mono (c.out _) ?_; rintro e w2 ⟨rfl, hb2⟩)
            go_roundw
            case rel => exact ⟨k + 1, S ++ (⟨#[32]⟩ : ByteArray) ++ D, by omega, by go_num, rfl, join_next HS.out HG.out HD.out hk00, hbw.trans (hb2.mono hbw.size)⟩
            case measure => simp [intOf]; omega
          · obtain ⟨D, HD⟩ : ∃ D : ByteArray, Hid (D.data.toList = sgT q) := ⟨⟨(sgT q).toArray⟩, (rfl : (⟨(sgT q).toArray⟩ : ByteArray).data.toList = sgT q)⟩
            have hDs : D.size ≤ 1000000000 := sg_small HD.out HL.out
            have c : Hid (∀ wx, Calls Tryd.prog 39 #[.int .i64 q.num] wx fun e w' => e = .returned (.string D) ∧ Below wx.heap.size wx w') := fun wx => by
              have := specDecimal_any q.num wx (by omega) (by omega)
              rw [show (⟨(Lib.itoa q.num).toArray⟩ : ByteArray) = D from bytes_ext3 (by rw [HD.out]; unfold sgT Lib.itoa; rw [if_pos hkind, if_neg hneg])] at this
              exact this
            go_wp2_with (go_at_call 39; refine Calls.mono (c.out _) ?_; rintro e w2 ⟨rfl, hb2⟩)
            go_roundw
            case rel => exact ⟨k + 1, S ++ (⟨#[32]⟩ : ByteArray) ++ D, by omega, by go_num, rfl, join_next HS.out HG.out HD.out hk00, hbw.trans (hb2.mono hbw.size)⟩
            case measure => simp [intOf]; omega
        · have hkd : (q.kind == 2) = false := by simpa using hkind
          obtain ⟨D, HDt⟩ : ∃ D : ByteArray, Hid (q.text = D) := ⟨_, (rfl : q.text = q.text)⟩
          have HD : Hid (D.data.toList = sgT q) := by show _ = _; rw [← HDt.out]; unfold sgT; rw [if_neg hkind]
          have hDs : D.size ≤ 1000000000 := sg_small HD.out HL.out
          rw [HDt.out] at d1
          go_wp2
          go_roundw
          case rel => exact ⟨k + 1, S ++ (⟨#[32]⟩ : ByteArray) ++ D, by omega, by go_num, rfl, join_next HS.out HG.out HD.out hk00, hbw⟩
          case measure => simp [intOf]; omega
    · have HF : Hid (S = signText ss) := by
        show S = _
        unfold signText
        rw [HN.out, show N = k by omega, ← HS.out]
      go_wp2
      go_ret
      exact ⟨congrArg (fun z : ByteArray => Ending.returned (.string z)) HF.out, hbw⟩

end Go.Proofs.YtepkcabeoennlaaDoor
