/-
  What the laws ask of rows of signs: held one against the other.
-/
import Derived.Test.YtepkcabeoennlaaDoorSignT
namespace Go.Proofs.YtepkcabeoennlaaDoor
open Go.RowKit

def sgV (s : Sg) : Value := .agg #[.int .i64 s.kind, .string s.text, .int .i64 s.num]

theorem eqSign_same (s : Sg) (w : World) :
    Calls Tryd.prog 40 #[sgV s, sgV s] w fun e w' => e = .returned (.bool true) ∧ Below w.heap.size w w' := by
  obtain ⟨k, t, n⟩ := s
  unfold sgV
  go_enter Tryd.func40, Tryd.ntmps40
  go_wp2
  go_ret
  exact ⟨rfl, ((Below.refl _ _).alloc (Nat.le_refl _) _).alloc (by simp) _⟩

/-- The three cells of a sign in a row that can be read. -/
theorem RowSg.at {w : World} {B : Nat} {a : Option Addr} {n cap : Nat} {ss : List Sg} (h : RowSg w B (.slice a n cap) ss) (k : Nat) (hk : k < ss.length) :
    ∃ b off, a = some ⟨b, off, none⟩ ∧ b < B ∧ w.cell? ⟨b, off + k * 3, none⟩ = some (.int .i64 ss[k].kind) ∧ w.cell? ⟨b, off + k * 3 + 1, none⟩ = some (.string ss[k].text) ∧ w.cell? ⟨b, off + k * 3 + 2, none⟩ = some (.int .i64 ss[k].num) := by
  obtain ⟨a', cap', he, h⟩ := h
  cases he
  rcases h with rfl | ⟨b, off, rfl, hb, h⟩
  · simp at hk
  · exact ⟨b, off, rfl, hb, h k hk⟩
theorem RowSg.len {w : World} {B : Nat} {v : Value} {ss : List Sg} (h : RowSg w B v ss) : ∃ a cap, v = .slice a ss.length cap := by
  obtain ⟨a, cap, he, _⟩ := h
  exact ⟨a, cap, he⟩

set_option maxHeartbeats 800000 in
theorem eqSignS_same (B : Nat) (va vb : Value) (ss : List Sg) (w : World) (hB : B ≤ w.heap.size) (ha : RowSg w B va ss) (hb : RowSg w B vb ss) (hl : ss.length ≤ 1048576) :
    Calls Tryd.prog 19 #[va, vb] w fun e w' => e = .returned (.bool true) ∧ Below w.heap.size w w' := by
  obtain ⟨a, ca, rfl⟩ := ha.len
  obtain ⟨b, cb, rfl⟩ := hb.len
  obtain ⟨N, HN⟩ : ∃ N, Hid (ss.length = N) := ⟨_, (rfl : ss.length = ss.length)⟩
  have H : Hid (RowSg w B (.slice a N ca) ss ∧ RowSg w B (.slice b N cb) ss) := by rw [← HN.out]; exact ⟨ha, hb⟩
  rw [HN.out] at hl ⊢
  clear ha hb
  go_enter Tryd.func19, Tryd.ntmps19
  go_wp2
  go_loopw [5] (fun i wr => ∃ k : Nat, k ≤ N ∧ i = .int .i64 (k : Int) ∧ Below w.heap.size w wr) (fun i _ => N - (intOf i).toNat)
  case atStart => exact ⟨0, Nat.zero_le _, rfl, Below.refl _ _⟩
  case round =>
    obtain ⟨k, hk, rfl, hbw⟩ := hrel
    by_cases hlt : k < N
    · have hk1 : (k : Int) < (N : Int) := by omega
      have hk0 : (0 : Int) ≤ (k : Int) := by omega
      have hkl : k < ss.length := by have := HN.out; omega
      obtain ⟨ba, oa, rfl, hba, c0, c1, c2⟩ := H.out.1.at k hkl
      obtain ⟨bb, ob, rfl, hbb, e0, e1, e2⟩ := H.out.2.at k hkl
      obtain ⟨q, hq⟩ : ∃ q, Hid (ss[k] = q) := ⟨_, (rfl : ss[k] = ss[k])⟩
      have d0 := (hbw.cell (p := ⟨ba, oa + k * 3, none⟩) (by show ba < _; omega)).trans c0
      have d1 := (hbw.cell (p := ⟨ba, oa + k * 3 + 1, none⟩) (by show ba < _; omega)).trans c1
      have d2 := (hbw.cell (p := ⟨ba, oa + k * 3 + 2, none⟩) (by show ba < _; omega)).trans c2
      have f0 := (hbw.cell (p := ⟨bb, ob + k * 3, none⟩) (by show bb < _; omega)).trans e0
      have f1 := (hbw.cell (p := ⟨bb, ob + k * 3 + 1, none⟩) (by show bb < _; omega)).trans e1
      have f2 := (hbw.cell (p := ⟨bb, ob + k * 3 + 2, none⟩) (by show bb < _; omega)).trans e2
      rw [hq.out] at d0 d1 d2 f0 f1 f2
      clear c0 c1 c2 e0 e1 e2
      have hba1 : ba < wr.heap.size := by have := hbw.size; omega
      have hbb1 : bb < wr.heap.size := by have := hbw.size; omega
      go_wp2_with fail
      go_region_held3 (fun w' => (w'.cell? ⟨ba, oa + k * 3, none⟩ = some (.int .i64 q.kind) ∧ w'.cell? ⟨ba, oa + k * 3 + 1, none⟩ = some (.string q.text) ∧ w'.cell? ⟨ba, oa + k * 3 + 2, none⟩ = some (.int .i64 q.num)) ∧ (w'.cell? ⟨bb, ob + k * 3, none⟩ = some (.int .i64 q.kind) ∧ w'.cell? ⟨bb, ob + k * 3 + 1, none⟩ = some (.string q.text) ∧ w'.cell? ⟨bb, ob + k * 3 + 2, none⟩ = some (.int .i64 q.num))) (first | exact ⟨⟨d0, d1, d2⟩, f0, f1, f2⟩ | exact ⟨⟨(hb1.cell (p := ⟨ba, oa + k * 3, none⟩) hba1).trans d0, (hb1.cell (p := ⟨ba, oa + k * 3 + 1, none⟩) hba1).trans d1, (hb1.cell (p := ⟨ba, oa + k * 3 + 2, none⟩) hba1).trans d2⟩, (hb1.cell (p := ⟨bb, ob + k * 3, none⟩) hbb1).trans f0, (hb1.cell (p := ⟨bb, ob + k * 3 + 1, none⟩) hbb1).trans f1, (hb1.cell (p := ⟨bb, ob + k * 3 + 2, none⟩) hbb1).trans f2⟩) ((go_at_call 40; refine (eqSign_same q _).mono ?_; rintro e w1 ⟨rfl, hb1⟩))
      all_goals
        go_wp2
        go_roundw
        case rel => exact ⟨k + 1, by omega, by go_num, hbw.drew.trans (hb1.mono hbw.size)⟩
        case measure => simp [intOf]; omega
    · go_wp2
      go_ret
      exact ⟨rfl, hbw⟩

end Go.Proofs.YtepkcabeoennlaaDoor
