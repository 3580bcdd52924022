/-
  What the laws ask of an answer's memory: rows of texts held one against the other, marked, and looked at again.
-/
import Derived.Test.YtojlnpiaijnfhaaDec
import Derived.Deep.QuietTactic
import Derived.BigQuiet
namespace Go.Proofs.Ytojlnpiaijnfhaa
open Go.RowKit

/-- The text of a mark. -/
def mkT (k : Nat) : ByteArray := ⟨#[109]⟩ ++ ⟨(Lib.decDigits k).toArray⟩

set_option maxHeartbeats 800000 in
theorem markText_any (N : Nat) (w : World) (hN : N ≤ 1000000000) (h0 : 0 < N) :
    Calls Try.prog 36 #[.int .i64 (N : Int)] w fun e w' => e = .returned (.string (mkT N)) ∧ Below w.heap.size w w' := by
  have hls := lit_string
  have hl1 : ∀ x : Int, (strOfNums [x]).size = 1 := fun x => strOfNums_size [x]
  go_enter Try.func36, Try.ntmps36
  go_wp2
  go_loopw [0, 3] (fun n s wr => ∃ (u : Nat) (S : ByteArray), u ≤ N ∧ n = .int .i64 (u : Int) ∧ s = .string S ∧ Hid (Lib.decDigits N = digs u ++ S.data.toList) ∧ Below w.heap.size w wr)
    (fun n _ _ => (intOf n).toNat)
  case atStart => exact ⟨N, ⟨#[]⟩, Nat.le_refl _, rfl, rfl, by show _ = _; rw [digs_all h0]; simp, Below.refl _ _⟩
  case round =>
    obtain ⟨u, S, hu, rfl, rfl, HD, hnx⟩ := hrel
    have hsz := hnx.size
    have hS : S.size ≤ 20 := digs_short (by omega) HD.out
    by_cases hz : 0 < u
    · go_wp2
      go_roundw
      case rel => exact ⟨u / 10, _, by omega, by go_num, rfl, step_digs hz HD.out _ (by omega), hnx.alloc hsz _⟩
      case measure => simp [intOf]; omega
    · have hz3 : u = 0 := by omega
      subst hz3
      go_wp2
      go_ret
      exact ⟨by rw [mkT, HD.out, digs_zero, List.nil_append]; rfl, hnx⟩

/-- A row of texts, in one form. -/
theorem OwnsS.any {w : World} {B : Nat} {e : TypeId} {v : Value} {ss : List ByteArray} (h : OwnsS w B e v ss) :
    ∃ ao cap, v = .slice ao ss.length cap ∧ (0 < ss.length → ∃ g, ao = some ⟨g, 0, none⟩ ∧ B ≤ g ∧ g < w.heap.size) := by
  rcases h.form with ⟨rfl, rfl⟩ | ⟨g, cap, rfl, h1, h2⟩
  · exact ⟨none, 0, rfl, fun h => by simp at h⟩
  · exact ⟨_, cap, rfl, fun _ => ⟨g, rfl, h1, h2⟩⟩

theorem eqStringS_none (ao bo : Option Addr) (ca cb : Nat) (w : World) :
    Calls Try.prog 27 #[.slice ao 0 ca, .slice bo 0 cb] w fun e w' => e = .returned (.bool true) ∧ w' = w := by
  go_enter Try.func27, Try.ntmps27
  go_wp2
  refine wp_loop_rounds 1 ?_
  rw [rounds_succ]
  go_wp2
  go_ret
  exact ⟨rfl, rfl⟩

set_option maxHeartbeats 800000 in
theorem eqStringS_some (ga gb ca cb : Nat) (ss : List ByteArray) (w : World) (hl : ss.length ≤ 1000000)
    (ha : ∀ i, i < ss.length → w.cell? ⟨ga, i, none⟩ = some (.string (ss.getD i ByteArray.empty))) (hb : ∀ i, i < ss.length → w.cell? ⟨gb, i, none⟩ = some (.string (ss.getD i ByteArray.empty))) :
    Calls Try.prog 27 #[.slice (some ⟨ga, 0, none⟩) ss.length ca, .slice (some ⟨gb, 0, none⟩) ss.length cb] w fun e w' => e = .returned (.bool true) ∧ ∃ q, w' = w.drewN q := by
  obtain ⟨n, hn⟩ : ∃ n, n = ss.length := ⟨_, rfl⟩
  rw [← hn] at hl ha hb ⊢
  clear hn
  go_enter Try.func27, Try.ntmps27
  go_wp2
  go_loopw [5] (fun i wr => ∃ (k q : Nat), k ≤ n ∧ i = .int .i64 (k : Int) ∧ wr = w.drewN q) (fun i _ => n - (intOf i).toNat)
  case atStart => exact ⟨0, 0, Nat.zero_le _, rfl, rfl⟩
  case round =>
    obtain ⟨k, q, hk, rfl, rfl⟩ := hrel
    by_cases hlt : k < n
    · have h1 := ha k hlt
      have h2 := hb k hlt
      have hk0 : (0 : Int) ≤ (k : Int) := by omega
      have hk1 : (k : Int) < (n : Int) := by omega
      obtain ⟨s, hs⟩ : ∃ s, s = ss.getD k ByteArray.empty := ⟨_, rfl⟩
      rw [← hs] at h1 h2
      clear hs ha hb
      go_wp2
      go_quiet (fail)
      go_wp2
      go_roundw
      case rel => exact ⟨k + 1, _, by omega, by go_num, rfl⟩
      case measure => simp [intOf]; omega
    · go_wp2
      go_ret
      exact ⟨rfl, _, rfl⟩

/-- Rows of the same texts are told alike. -/
theorem eqStringS_any (B1 B2 : Nat) (e1 e2 : TypeId) (a b : Value) (ss : List ByteArray) (w : World) (hl : ss.length ≤ 1000000) (ha : OwnsS w B1 e1 a ss) (hb : OwnsS w B2 e2 b ss) :
    Calls Try.prog 27 #[a, b] w fun e w' => e = .returned (.bool true) ∧ ∃ q, w' = w.drewN q := by
  obtain ⟨ao, ca, rfl, ha2⟩ := ha.any
  obtain ⟨bo, cb, rfl, hb2⟩ := hb.any
  by_cases hz : ss.length = 0
  · rw [hz]
    refine (eqStringS_none ao bo ca cb w).mono ?_
    rintro e w' ⟨rfl, rfl⟩
    exact ⟨rfl, 0, rfl⟩
  · obtain ⟨ga, rfl, _, _⟩ := ha2 (by omega)
    obtain ⟨gb, rfl, _, _⟩ := hb2 (by omega)
    exact eqStringS_some ga gb ca cb ss w hl (fun i hi => ha.cell hi) (fun i hi => hb.cell hi)

theorem grown_trans {a b c : World} {r r1 r2 : Option Nat} (h1 : a.grownBy b r1) (h2 : b.grownBy c r2) (e1 : r1 = none ∨ r1 = r) (e2 : r2 = none ∨ r2 = r) : a.grownBy c r := by
  refine ⟨h2.os.trans h1.os, h2.tape.trans h1.tape, h2.output.trans h1.output, Nat.le_trans h1.size h2.size, fun k hk hne => ?_⟩
  have n1 : some k ≠ r1 := by rcases e1 with rfl | rfl <;> simp_all
  have n2 : some k ≠ r2 := by rcases e2 with rfl | rfl <;> simp_all
  rw [h2.block k (Nat.lt_of_lt_of_le hk h1.size) n2, h1.block k hk n1]

/-- Marks from k on, n of them. -/
def marks (k n : Nat) : List ByteArray := (List.range n).map fun i => mkT (k + i)
theorem marks_len (k n : Nat) : (marks k n).length = n := by simp [marks]
theorem marks_step (k j : Nat) (ss : List ByteArray) (hj : j < ss.length) : (marks k j ++ ss.drop j).set j (mkT (k + j)) = marks k (j + 1) ++ ss.drop (j + 1) := by
  rw [List.set_append_right _ _ (by rw [marks_len]; exact Nat.le_refl _), marks_len, Nat.sub_self, List.drop_eq_getElem_cons hj, List.set_cons_zero]
  simp [marks, List.range_succ]
theorem marks_at {k n i : Nat} (h : i < n) : (marks k n).getD i ByteArray.empty = mkT (k + i) := by
  simp [marks, List.getD, h]

theorem OwnsS.put {w : World} {B : Nat} {e : TypeId} {g cap n : Nat} {ss : List ByteArray} (h : OwnsS w B e (.slice (some ⟨g, 0, none⟩) n cap) ss) (hn : n = ss.length) (j : Nat) (s : ByteArray) :
    OwnsS (w.setCell ⟨g, j, none⟩ (.string s)) B e (.slice (some ⟨g, 0, none⟩) n cap) (ss.set j s) ∧ w.grownBy (w.setCell ⟨g, j, none⟩ (.string s)) (some g) := by
  subst hn
  have := World.ownsRow.stored h j (.string s)
  refine ⟨?_, this.2⟩
  unfold OwnsS
  rw [List.length_set, List.map_set]
  exact this.1

theorem OwnsS.cellN {w : World} {B : Nat} {e : TypeId} {g cap n : Nat} {ss : List ByteArray} (h : OwnsS w B e (.slice (some ⟨g, 0, none⟩) n cap) ss) (hn : n = ss.length) {j : Nat} (hj : j < n) : w.cell? ⟨g, j, none⟩ = some (.string (ss.getD j ByteArray.empty)) := by
  subst hn
  exact h.cell hj

theorem markStringS_none (ao : Option Addr) (c : Nat) (k : Int) (w : World) :
    Calls Try.prog 28 #[.slice ao 0 c, .int .i64 k] w fun e w' => e = .returned (.int .i64 k) ∧ w' = w := by
  go_enter Try.func28, Try.ntmps28
  go_wp2
  refine wp_loop_rounds 1 ?_
  rw [rounds_succ]
  go_wp2
  go_ret
  exact ⟨rfl, rfl⟩

theorem heldStringS_none (ao : Option Addr) (c : Nat) (k : Int) (w : World) :
    Calls Try.prog 29 #[.slice ao 0 c, .int .i64 k] w fun e w' => e = .returned (.int .i64 k) ∧ w' = w := by
  go_enter Try.func29, Try.ntmps29
  go_wp2
  refine wp_loop_rounds 1 ?_
  rw [rounds_succ]
  go_wp2
  go_ret
  exact ⟨rfl, rfl⟩

set_option maxHeartbeats 800000 in
theorem markStringS_some (B : Nat) (e : TypeId) (g cap k : Nat) (ss : List ByteArray) (w : World) (hl : ss.length ≤ 1000000) (hk0 : 0 < k) (hk1 : k ≤ 1000000) (hown : OwnsS w B e (.slice (some ⟨g, 0, none⟩) ss.length cap) ss) :
    Calls Try.prog 28 #[.slice (some ⟨g, 0, none⟩) ss.length cap, .int .i64 (k : Int)] w fun e' w' => e' = .returned (.int .i64 ((k + ss.length : Nat) : Int)) ∧ OwnsS w' B e (.slice (some ⟨g, 0, none⟩) ss.length cap) (marks k ss.length) ∧ w.grownBy w' (some g) := by
  obtain ⟨n, hn⟩ : ∃ n, n = ss.length := ⟨_, rfl⟩
  have HN : Hid (n = ss.length) := hn
  rw [← hn] at hl hown ⊢
  clear hn
  go_enter Try.func28, Try.ntmps28
  go_wp2
  go_loopw [1, 5] (fun kk i wr => ∃ (j m : Nat), j ≤ n ∧ i = .int .i64 (j : Int) ∧ kk = .int .i64 (m : Int) ∧ Hid (m = k + j) ∧ OwnsS wr B e (.slice (some ⟨g, 0, none⟩) n cap) (marks k j ++ ss.drop j) ∧ w.grownBy wr (some g))
    (fun _ i _ => n - (intOf i).toNat)
  case atStart => exact ⟨0, k, Nat.zero_le _, rfl, rfl, rfl, hown, World.grownBy.refl _ _⟩
  case round =>
    obtain ⟨j, m, hj, rfl, rfl, HM, hown1, hg1⟩ := hrel
    have hm : m ≤ 2000000 := by have := HM.out; omega
    have hm0 : 0 < m := by have := HM.out; omega
    have HL : Hid (n = (marks k j ++ ss.drop j).length) := by show _ = _; have := HN.out; simp [marks_len]; omega
    by_cases hlt : j < n
    · have hj0 : (0 : Int) ≤ (j : Int) := by omega
      have hj1 : (j : Int) < (n : Int) := by omega
      clear hown
      go_wp2_with (go_at_call 36; refine (markText_any m _ (by omega) hm0).mono ?_; rintro e' wc ⟨rfl, hbc⟩; have hownc := hown1.below hbc; have hfr := hownc.free HL.out j; have hce := hownc.cellN HL.out hlt)
      have hput := hownc.put HL.out j (mkT m)
      have hset : (marks k j ++ ss.drop j).set j (mkT m) = marks k (j + 1) ++ ss.drop (j + 1) := by
        rw [HM.out]
        exact marks_step k j ss (by have := HN.out; omega)
      rw [hset] at hput
      go_roundw
      case rel => exact ⟨j + 1, m + 1, by omega, by go_num, by go_num, by show _ = _; have := HM.out; omega, hput.1, grown_trans (grown_trans hg1 (grown_of_below hbc) (.inr rfl) (.inl rfl)) hput.2 (.inr rfl) (.inr rfl)⟩
      case measure => simp [intOf]; omega
    · have hjn : j = n := by omega
      subst hjn
      have hmk : marks k j ++ ss.drop j = marks k j := by rw [List.drop_of_length_le (by have := HN.out; omega), List.append_nil]
      rw [hmk] at hown1
      clear hmk hown
      go_wp2
      go_ret
      exact ⟨by rw [← HM.out]; rfl, hown1, hg1⟩

set_option maxHeartbeats 800000 in
theorem heldStringS_some (B : Nat) (e : TypeId) (g cap k n : Nat) (w : World) (hl : n ≤ 1000000) (hk0 : 0 < k) (hk1 : k ≤ 1000000) (hown : OwnsS w B e (.slice (some ⟨g, 0, none⟩) n cap) (marks k n)) :
    Calls Try.prog 29 #[.slice (some ⟨g, 0, none⟩) n cap, .int .i64 (k : Int)] w fun e' w' => e' = .returned (.int .i64 ((k + n : Nat) : Int)) ∧ Below w.heap.size w w' := by
  have hgl : g < w.heap.size := by
    rcases hown.form with ⟨h1, _⟩ | ⟨g', cap', h1, h2, h3⟩
    · cases h1
    · rw [marks_len] at h1
      cases h1
      exact h3
  have hcell : ∀ j, j < n → w.cell? ⟨g, j, none⟩ = some (.string (mkT (k + j))) := fun j hj => by
    rw [hown.cellN (by rw [marks_len]) hj, marks_at hj]
  clear hown
  go_enter Try.func29, Try.ntmps29
  go_wp2
  go_loopw [1, 5] (fun kk i wr => ∃ (j m : Nat), j ≤ n ∧ i = .int .i64 (j : Int) ∧ kk = .int .i64 (m : Int) ∧ Hid (m = k + j) ∧ Below w.heap.size w wr)
    (fun _ i _ => n - (intOf i).toNat)
  case atStart => exact ⟨0, k, Nat.zero_le _, rfl, rfl, rfl, Below.refl _ _⟩
  case round =>
    obtain ⟨j, m, hj, rfl, rfl, HM, hnx⟩ := hrel
    have hm : m ≤ 2000000 := by have := HM.out; omega
    have hm0 : 0 < m := by have := HM.out; omega
    have hsz := hnx.size
    by_cases hlt : j < n
    · have hj0 : (0 : Int) ≤ (j : Int) := by omega
      have hj1 : (j : Int) < (n : Int) := by omega
      have hc : wr.cell? ⟨g, j, none⟩ = some (.string (mkT m)) := by rw [hnx.cell (p := ⟨g, j, none⟩) hgl, hcell j hlt, HM.out]
      have hgr : g < wr.heap.size := by omega
      obtain ⟨s, hs⟩ : ∃ s, s = mkT m := ⟨_, rfl⟩
      rw [← hs] at hc
      have HS : Hid (s = mkT m) := hs
      clear hs hcell
      go_wp2_with fail
      go_region_held3 (fun w' => w'.cell? ⟨g, j, none⟩ = some (.string s)) (first | go_keep | (show _ = _; rw [hbc.cell (p := ⟨g, j, none⟩) hgr]; assumption)) ((go_at_call 36; refine (markText_any m _ ?_ hm0).mono ?_; omega; rw [← HS.out]; rintro e' wc ⟨rfl, hbc⟩))
      all_goals
        go_wp2
        go_roundw
        case rel => exact ⟨j + 1, m + 1, by omega, by go_num, by go_num, by show _ = _; have := HM.out; omega, hnx.trans ((Below.refl _ _).drew.trans (hbc.mono hsz))⟩
        case measure => simp [intOf]; omega
    · have hjn : j = n := by omega
      subst hjn
      go_wp2
      go_ret
      exact ⟨by rw [← HM.out]; rfl, hnx⟩

/-- Marked, whatever the row. -/
theorem markStringS_any (B : Nat) (e : TypeId) (v : Value) (k : Nat) (ss : List ByteArray) (w : World) (hl : ss.length ≤ 1000000) (hk0 : 0 < k) (hk1 : k ≤ 1000000) (hown : OwnsS w B e v ss) :
    Calls Try.prog 28 #[v, .int .i64 (k : Int)] w fun e' w' => e' = .returned (.int .i64 ((k + ss.length : Nat) : Int)) ∧ OwnsS w' B e v (marks k ss.length) ∧ w.grownBy w' v.ownBlock := by
  obtain ⟨ao, cap, rfl, h2⟩ := hown.any
  by_cases hz : ss.length = 0
  · have hs : ss = [] := List.eq_nil_of_length_eq_zero hz
    subst hs
    refine (markStringS_none ao cap k w).mono ?_
    rintro e' w' ⟨rfl, rfl⟩
    exact ⟨rfl, hown, World.grownBy.refl _ _⟩
  · obtain ⟨g, rfl, _, _⟩ := h2 (by omega)
    exact markStringS_some B e g cap k ss w hl hk0 hk1 hown
theorem heldStringS_any (B : Nat) (e : TypeId) (v : Value) (k n : Nat) (w : World) (hl : n ≤ 1000000) (hk0 : 0 < k) (hk1 : k ≤ 1000000) (hown : OwnsS w B e v (marks k n)) :
    Calls Try.prog 29 #[v, .int .i64 (k : Int)] w fun e' w' => e' = .returned (.int .i64 ((k + n : Nat) : Int)) ∧ Below w.heap.size w w' := by
  obtain ⟨ao, cap, rfl, h2⟩ := hown.any
  rw [marks_len] at h2 hown ⊢
  by_cases hz : n = 0
  · subst hz
    refine (heldStringS_none ao cap k w).mono ?_
    rintro e' w' ⟨rfl, rfl⟩
    exact ⟨rfl, Below.refl _ _⟩
  · obtain ⟨g, rfl, _, _⟩ := h2 (by omega)
    exact heldStringS_some B e g cap k n w hl hk0 hk1 hown

end Go.Proofs.Ytojlnpiaijnfhaa
