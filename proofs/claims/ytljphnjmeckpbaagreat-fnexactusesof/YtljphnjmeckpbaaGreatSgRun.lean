/-
  Letters and figures, and what a text begins with, in the program: what each answers at every rune and every text.
-/
import Derived.Test.YtljphnjmeckpbaaGreatNames
namespace Go.Proofs.YtljphnjmeckpbaaGreat
open Go.RowKit

def letR (r : Int) : Bool := decide (97 ≤ r) && decide (r ≤ 122)
def figR (r : Int) : Bool := decide (48 ≤ r) && decide (r ≤ 57)
def lfR (r : Int) : Bool := letR r || figR r

theorem letter_any (r : Int) (w : World) :
    Calls Tryz.prog 130 #[.int .i32 r] w fun e w' => e = .returned (.bool (letR r)) ∧ w' = w := by
  go_enter Tryz.func130, Tryz.ntmps130
  by_cases h1 : 97 ≤ r
  · by_cases h2 : r ≤ 122
    · go_wp2
      go_ret
      exact ⟨by simp [letR, h1, h2], rfl⟩
    · go_wp2
      go_ret
      exact ⟨by simp [letR, h2], rfl⟩
  · go_wp2
    go_ret
    exact ⟨by simp [letR]; omega, rfl⟩

theorem figure_any (r : Int) (w : World) :
    Calls Tryz.prog 135 #[.int .i32 r] w fun e w' => e = .returned (.bool (figR r)) ∧ w' = w := by
  go_enter Tryz.func135, Tryz.ntmps135
  by_cases h1 : 48 ≤ r
  · by_cases h2 : r ≤ 57
    · go_wp2
      go_ret
      exact ⟨by simp [figR, h1, h2], rfl⟩
    · go_wp2
      go_ret
      exact ⟨by simp [figR, h2], rfl⟩
  · go_wp2
    go_ret
    exact ⟨by simp [figR]; omega, rfl⟩

theorem letterOrFigure_any (r : Int) (w : World) :
    Calls Tryz.prog 131 #[.int .i32 r] w fun e w' => e = .returned (.bool (lfR r)) ∧ w' = w := by
  have hl := fun w => letter_any r w
  have hf := fun w => figure_any r w
  go_enter Tryz.func131, Tryz.ntmps131
  cases hb : letR r
  · rw [hb] at hl
    go_wp2_with (first | (go_at_call 130; refine (hl _).mono ?_; rintro e w1 ⟨rfl, rfl⟩) | (go_at_call 135; refine (hf _).mono ?_; rintro e w2 ⟨rfl, rfl⟩))
    go_ret
    exact ⟨by simp [lfR, hb], rfl⟩
  · rw [hb] at hl
    go_wp2_with (go_at_call 130; refine (hl _).mono ?_; rintro e w1 ⟨rfl, rfl⟩)
    go_ret
    exact ⟨by simp [lfR, hb], rfl⟩

/-- How many bytes at the head hold throughout. -/
def runLen (p : Int → Bool) (l : List UInt8) : Nat := (l.takeWhile fun c => p (c.toNat : Int)).length

theorem takeWhile_whole {p : UInt8 → Bool} : ∀ (l : List UInt8), (∀ x ∈ l, p x = true) → l.takeWhile p = l
  | [], _ => rfl
  | c :: r, h => by
    rw [List.takeWhile, h c (by simp), takeWhile_whole r (fun x hx => h x (by simp [hx]))]

theorem runLen_end {p : Int → Bool} {s : ByteArray} {k : Nat} (hk : k = s.size) (h : ∀ j (hj : j < s.size), j < k → p (s[j].toNat : Int) = true) : runLen p s.data.toList = k := by
  unfold runLen
  rw [takeWhile_whole]
  · rw [hk]; rfl
  · intro x hx
    obtain ⟨j, hj, rfl⟩ := List.getElem_of_mem hx
    have hj' : j < s.size := by simpa using hj
    exact h j hj' (by omega)

theorem takeWhile_cut {p : UInt8 → Bool} : ∀ (l : List UInt8) (k : Nat) (hk : k < l.length), (∀ j (hj : j < l.length), j < k → p l[j] = true) → p l[k] = false → (l.takeWhile p).length = k
  | [], k, hk, _, _ => by simp at hk
  | c :: r, 0, _, _, hf => by
    have : p c = false := hf
    simp [List.takeWhile, this]
  | c :: r, k + 1, hk, ht, hf => by
    have h0 : p c = true := ht 0 (by simp) (by omega)
    have ih := takeWhile_cut r k (by simpa using hk) (fun j hj hlt => ht (j + 1) (by simpa using hj) (by omega)) (by simpa using hf)
    simp [List.takeWhile, h0, ih]

theorem runLen_cut {p : Int → Bool} {s : ByteArray} {k : Nat} (hk : k < s.size) (h : ∀ j (hj : j < s.size), j < k → p (s[j].toNat : Int) = true) (hf : p (s[k].toNat : Int) = false) : runLen p s.data.toList = k :=
  takeWhile_cut s.data.toList k (by simpa using hk) (fun j hj hlt => h j (by simpa using hj) hlt) hf

theorem high_letR (r : Int) (h : 128 ≤ r) : letR r = false := by simp [letR]; omega
theorem high_figR (r : Int) (h : 128 ≤ r) : figR r = false := by simp [figR]; omega
theorem high_lfR (r : Int) (h : 128 ≤ r) : lfR r = false := by simp [lfR, high_letR r h, high_figR r h]

set_option maxRecDepth 100000 in
set_option maxHeartbeats 800000 in
theorem runAhead_letter (s : ByteArray) (w : World) :
    Calls Tryz.prog 129 #[.string s, .func (.func 130) #[] #[]] w fun e w' => e = .returned (.int .i64 (runLen letR s.data.toList : Int)) ∧ Below w.heap.size w w' := by
  go_enter Tryz.func129, Tryz.ntmps129
  go_wp2
  go_loopw [5] (fun _ wr => ∃ k : Nat, k ≤ s.size ∧ wr = w.iter s k ∧ Hid (∀ j (hj : j < s.size), j < k → letR (s[j].toNat : Int) = true)) (fun _ wr => s.size - wr.iterPos w.heap.size)
  case atStart => exact ⟨0, Nat.zero_le _, rfl, fun j _ hj => by omega⟩
  case round =>
    obtain ⟨k, hk, rfl, HK⟩ := hrel
    have hbel : Hid (∀ q, Below w.heap.size w (w.iter s q)) := fun q => (Below.refl _ _).alloc (Nat.le_refl _) _
    by_cases hlt : k < s.size
    · obtain ⟨c, hc⟩ : ∃ c : Int, Hid ((s[k].toNat : Int) = c) := ⟨_, (rfl : (s[k].toNat : Int) = (s[k].toNat : Int))⟩
      obtain ⟨r, q, hrq, hr⟩ : ∃ (r : Int) (q : Nat), Hid (((Utf8.decode s k).1 : Int) = r ∧ (Utf8.decode s k).2 = q) ∧ Hid (letR r = letR c ∧ (letR r = true → q = 1)) := by
        refine ⟨_, _, ⟨rfl, rfl⟩, ?_⟩
        by_cases ha : s[k].toNat < 128
        · rw [decode_ascii s k hlt ha]
          exact ⟨by rw [← hc.out], fun _ => rfl⟩
        · have hd := decode_high s k hlt (by omega)
          have h1 : letR ((Utf8.decode s k).1 : Int) = false := high_letR _ (by omega)
          have h2 : letR c = false := high_letR _ (by rw [← hc.out]; omega)
          exact ⟨by rw [h1, h2], fun h => by rw [h1] at h; cases h⟩
      have hnx : ∀ ty, (Instr.next (.pointer (some ⟨w.heap.size, 0, none⟩)) true ty).run Tryz.prog (w.iter s k) = .ok (.tuple #[.bool true, .int .i64 k, .int .i32 r]) (w.iter s (k + q)) := fun ty => by
        rw [← hrq.out.1, ← hrq.out.2]
        exact run_next_any w s k ty hlt
      cases hb : letR r
      · have hcF : ∀ W, Calls Tryz.prog 130 #[.int .i32 r] W fun e w' => e = .returned (.bool false) ∧ w' = W := fun W => by rw [← hb]; exact letter_any r W
        have hend : Hid (runLen letR s.data.toList = k) := runLen_cut hlt HK.out (by rw [hc.out, ← hr.out.1]; exact hb)
        go_wp2_with (go_at_call 130; refine (hcF _).mono ?_; rintro e w1 ⟨rfl, rfl⟩)
        go_ret
        exact ⟨by rw [hend.out]; rfl, hbel.out _⟩
      · have hcF : ∀ W, Calls Tryz.prog 130 #[.int .i32 r] W fun e w' => e = .returned (.bool true) ∧ w' = W := fun W => by rw [← hb]; exact letter_any r W
        have hq1 := hr.out.2 hb
        subst hq1
        go_wp2_with (go_at_call 130; refine (hcF _).mono ?_; rintro e w1 ⟨rfl, rfl⟩)
        go_roundw
        case rel =>
          refine ⟨k + 1, by omega, rfl, fun j hj hjk => ?_⟩
          by_cases e : j = k
          · subst e
            rw [hc.out, ← hr.out.1]
            exact hb
          · exact HK.out j hj (by omega)
        case measure => simp; omega
    · have hke : Hid (k = s.size) := (by omega : k = s.size)
      have hnx : ∀ ty, (Instr.next (.pointer (some ⟨w.heap.size, 0, none⟩)) true ty).run Tryz.prog (w.iter s k) = _ := fun ty => run_next_end w s k ty hlt
      have hend : Hid (runLen letR s.data.toList = k) := runLen_end hke.out HK.out
      go_wp2
      go_ret
      exact ⟨by rw [hend.out, hke.out]; rfl, hbel.out _⟩

set_option maxRecDepth 100000 in
set_option maxHeartbeats 800000 in
theorem runAhead_letterOrFigure (s : ByteArray) (w : World) :
    Calls Tryz.prog 129 #[.string s, .func (.func 131) #[] #[]] w fun e w' => e = .returned (.int .i64 (runLen lfR s.data.toList : Int)) ∧ Below w.heap.size w w' := by
  go_enter Tryz.func129, Tryz.ntmps129
  go_wp2
  go_loopw [5] (fun _ wr => ∃ k : Nat, k ≤ s.size ∧ wr = w.iter s k ∧ Hid (∀ j (hj : j < s.size), j < k → lfR (s[j].toNat : Int) = true)) (fun _ wr => s.size - wr.iterPos w.heap.size)
  case atStart => exact ⟨0, Nat.zero_le _, rfl, fun j _ hj => by omega⟩
  case round =>
    obtain ⟨k, hk, rfl, HK⟩ := hrel
    have hbel : Hid (∀ q, Below w.heap.size w (w.iter s q)) := fun q => (Below.refl _ _).alloc (Nat.le_refl _) _
    by_cases hlt : k < s.size
    · obtain ⟨c, hc⟩ : ∃ c : Int, Hid ((s[k].toNat : Int) = c) := ⟨_, (rfl : (s[k].toNat : Int) = (s[k].toNat : Int))⟩
      obtain ⟨r, q, hrq, hr⟩ : ∃ (r : Int) (q : Nat), Hid (((Utf8.decode s k).1 : Int) = r ∧ (Utf8.decode s k).2 = q) ∧ Hid (lfR r = lfR c ∧ (lfR r = true → q = 1)) := by
        refine ⟨_, _, ⟨rfl, rfl⟩, ?_⟩
        by_cases ha : s[k].toNat < 128
        · rw [decode_ascii s k hlt ha]
          exact ⟨by rw [← hc.out], fun _ => rfl⟩
        · have hd := decode_high s k hlt (by omega)
          have h1 : lfR ((Utf8.decode s k).1 : Int) = false := high_lfR _ (by omega)
          have h2 : lfR c = false := high_lfR _ (by rw [← hc.out]; omega)
          exact ⟨by rw [h1, h2], fun h => by rw [h1] at h; cases h⟩
      have hnx : ∀ ty, (Instr.next (.pointer (some ⟨w.heap.size, 0, none⟩)) true ty).run Tryz.prog (w.iter s k) = .ok (.tuple #[.bool true, .int .i64 k, .int .i32 r]) (w.iter s (k + q)) := fun ty => by
        rw [← hrq.out.1, ← hrq.out.2]
        exact run_next_any w s k ty hlt
      cases hb : lfR r
      · have hcF : ∀ W, Calls Tryz.prog 131 #[.int .i32 r] W fun e w' => e = .returned (.bool false) ∧ w' = W := fun W => by rw [← hb]; exact letterOrFigure_any r W
        have hend : Hid (runLen lfR s.data.toList = k) := runLen_cut hlt HK.out (by rw [hc.out, ← hr.out.1]; exact hb)
        go_wp2_with (go_at_call 131; refine (hcF _).mono ?_; rintro e w1 ⟨rfl, rfl⟩)
        go_ret
        exact ⟨by rw [hend.out]; rfl, hbel.out _⟩
      · have hcF : ∀ W, Calls Tryz.prog 131 #[.int .i32 r] W fun e w' => e = .returned (.bool true) ∧ w' = W := fun W => by rw [← hb]; exact letterOrFigure_any r W
        have hq1 := hr.out.2 hb
        subst hq1
        go_wp2_with (go_at_call 131; refine (hcF _).mono ?_; rintro e w1 ⟨rfl, rfl⟩)
        go_roundw
        case rel =>
          refine ⟨k + 1, by omega, rfl, fun j hj hjk => ?_⟩
          by_cases e : j = k
          · subst e
            rw [hc.out, ← hr.out.1]
            exact hb
          · exact HK.out j hj (by omega)
        case measure => simp; omega
    · have hke : Hid (k = s.size) := (by omega : k = s.size)
      have hnx : ∀ ty, (Instr.next (.pointer (some ⟨w.heap.size, 0, none⟩)) true ty).run Tryz.prog (w.iter s k) = _ := fun ty => run_next_end w s k ty hlt
      have hend : Hid (runLen lfR s.data.toList = k) := runLen_end hke.out HK.out
      go_wp2
      go_ret
      exact ⟨by rw [hend.out, hke.out]; rfl, hbel.out _⟩

set_option maxRecDepth 100000 in
set_option maxHeartbeats 800000 in
theorem runAhead_figure (s : ByteArray) (w : World) :
    Calls Tryz.prog 129 #[.string s, .func (.func 135) #[] #[]] w fun e w' => e = .returned (.int .i64 (runLen figR s.data.toList : Int)) ∧ Below w.heap.size w w' := by
  go_enter Tryz.func129, Tryz.ntmps129
  go_wp2
  go_loopw [5] (fun _ wr => ∃ k : Nat, k ≤ s.size ∧ wr = w.iter s k ∧ Hid (∀ j (hj : j < s.size), j < k → figR (s[j].toNat : Int) = true)) (fun _ wr => s.size - wr.iterPos w.heap.size)
  case atStart => exact ⟨0, Nat.zero_le _, rfl, fun j _ hj => by omega⟩
  case round =>
    obtain ⟨k, hk, rfl, HK⟩ := hrel
    have hbel : Hid (∀ q, Below w.heap.size w (w.iter s q)) := fun q => (Below.refl _ _).alloc (Nat.le_refl _) _
    by_cases hlt : k < s.size
    · obtain ⟨c, hc⟩ : ∃ c : Int, Hid ((s[k].toNat : Int) = c) := ⟨_, (rfl : (s[k].toNat : Int) = (s[k].toNat : Int))⟩
      obtain ⟨r, q, hrq, hr⟩ : ∃ (r : Int) (q : Nat), Hid (((Utf8.decode s k).1 : Int) = r ∧ (Utf8.decode s k).2 = q) ∧ Hid (figR r = figR c ∧ (figR r = true → q = 1)) := by
        refine ⟨_, _, ⟨rfl, rfl⟩, ?_⟩
        by_cases ha : s[k].toNat < 128
        · rw [decode_ascii s k hlt ha]
          exact ⟨by rw [← hc.out], fun _ => rfl⟩
        · have hd := decode_high s k hlt (by omega)
          have h1 : figR ((Utf8.decode s k).1 : Int) = false := high_figR _ (by omega)
          have h2 : figR c = false := high_figR _ (by rw [← hc.out]; omega)
          exact ⟨by rw [h1, h2], fun h => by rw [h1] at h; cases h⟩
      have hnx : ∀ ty, (Instr.next (.pointer (some ⟨w.heap.size, 0, none⟩)) true ty).run Tryz.prog (w.iter s k) = .ok (.tuple #[.bool true, .int .i64 k, .int .i32 r]) (w.iter s (k + q)) := fun ty => by
        rw [← hrq.out.1, ← hrq.out.2]
        exact run_next_any w s k ty hlt
      cases hb : figR r
      · have hcF : ∀ W, Calls Tryz.prog 135 #[.int .i32 r] W fun e w' => e = .returned (.bool false) ∧ w' = W := fun W => by rw [← hb]; exact figure_any r W
        have hend : Hid (runLen figR s.data.toList = k) := runLen_cut hlt HK.out (by rw [hc.out, ← hr.out.1]; exact hb)
        go_wp2_with (go_at_call 135; refine (hcF _).mono ?_; rintro e w1 ⟨rfl, rfl⟩)
        go_ret
        exact ⟨by rw [hend.out]; rfl, hbel.out _⟩
      · have hcF : ∀ W, Calls Tryz.prog 135 #[.int .i32 r] W fun e w' => e = .returned (.bool true) ∧ w' = W := fun W => by rw [← hb]; exact figure_any r W
        have hq1 := hr.out.2 hb
        subst hq1
        go_wp2_with (go_at_call 135; refine (hcF _).mono ?_; rintro e w1 ⟨rfl, rfl⟩)
        go_roundw
        case rel =>
          refine ⟨k + 1, by omega, rfl, fun j hj hjk => ?_⟩
          by_cases e : j = k
          · subst e
            rw [hc.out, ← hr.out.1]
            exact hb
          · exact HK.out j hj (by omega)
        case measure => simp; omega
    · have hke : Hid (k = s.size) := (by omega : k = s.size)
      have hnx : ∀ ty, (Instr.next (.pointer (some ⟨w.heap.size, 0, none⟩)) true ty).run Tryz.prog (w.iter s k) = _ := fun ty => run_next_end w s k ty hlt
      have hend : Hid (runLen figR s.data.toList = k) := runLen_end hke.out HK.out
      go_wp2
      go_ret
      exact ⟨by rw [hend.out, hke.out]; rfl, hbel.out _⟩

end Go.Proofs.YtljphnjmeckpbaaGreat
