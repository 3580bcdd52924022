/-
  The program's memory: what is done is handed on as a closure. Written by mkimx.py.
-/
import Derived.Test.YtabejilnpblogaaKpMove
namespace Go.Proofs.Ytabejilnpblogaa
open Go.RowKit

theorem cells_le {m : Mm} (h : szMm m ≤ 2000000) : m.cells.length ≤ 2000000 := by
  unfold szMm at h
  rw [szRowCe_len] at h
  omega
/-- All below K but one block stays. -/
structure But (K rb : Nat) (w w' : World) : Prop where
  os : w'.os = w.os
  tape : w'.tape = w.tape
  output : w'.output = w.output
  size : w.heap.size ≤ w'.heap.size
  block : ∀ g, g < K → g ≠ rb → w'.heap[g]? = w.heap[g]?
theorem But.of {K rb : Nat} {w w' : World} (h : Below K w w') : But K rb w w' := ⟨h.os, h.tape, h.output, h.size, fun g hg _ => h.block g hg⟩
theorem But.trans {K rb : Nat} {a b c : World} (h : But K rb a b) (h2 : But K rb b c) : But K rb a c := ⟨h2.os.trans h.os, h2.tape.trans h.tape, h2.output.trans h.output, Nat.le_trans h.size h2.size, fun g hg hn => (h2.block g hg hn).trans (h.block g hg hn)⟩
theorem But.mono {K K' rb : Nat} {a b : World} (h : But K rb a b) (hK : K' ≤ K) : But K' rb a b := ⟨h.os, h.tape, h.output, h.size, fun g hg hn => h.block g (by omega) hn⟩
theorem But.set {K rb j : Nat} {a b : World} {u : Value} (h : But K rb a b) : But K rb a (b.setCell ⟨rb, j, none⟩ u) := ⟨h.os, h.tape, h.output, by have := h.size; simpa using this, fun g hg hn => (kept_set hn).trans (h.block g hg hn)⟩
theorem But.below {K rb : Nat} {a b : World} (h : But K rb a b) (hr : K ≤ rb) : Below K a b := ⟨h.os, h.tape, h.output, h.size, fun g hg => h.block g hg (by omega)⟩
/-- A store below the keeper. -/
theorem KpAt.under {K p b j : Nat} {W : World} {v0 v1 v2 u : Value} {ads : List (Nat × Nat)} {m : Mm} (h : KpAt K W p v0 v1 v2 ads m) (hb : b < K) : KpAt K (W.setCell ⟨b, j, none⟩ u) p v0 v1 v2 ads m :=
  h.same (fun g hg => kept_set (by have := (h.blocks g hg).1; omega)) (by simp)

set_option maxRecDepth 100000 in
set_option maxHeartbeats 3200000 in
theorem clSpend_any (K p : Nat) (x0 : Option Addr) (n0 c0 : Nat) (x1 : Option Addr) (n1 c1 : Nat) (x2 : Option Addr) (n2 c2 : Nat) (ads : List (Nat × Nat)) (m : Mm) (W : World) (h : KpAt K W p (.slice x0 n0 c0) (.slice x1 n1 c1) (.slice x2 n2 c2) ads m) (hi : OwnsI W K (.slice x1 n1 c1) m.input) (hb : m.bad = 0) (hl : szMm m ≤ 2000000) (hf : -9223372036854775808 ≤ m.fuel ∧ m.fuel ≤ 9223372036854775807) :
    Calls Try.prog 69 #[.pointer (some ⟨p, 0, none⟩)] W fun e w' => e = .returned (.tuple #[]) ∧ (∃ x0 n0 c0 x1 n1 c1 x2 n2 c2 ads, KpAt K w' p (.slice x0 n0 c0) (.slice x1 n1 c1) (.slice x2 n2 c2) ads (spendM m)) ∧ But K K W w' := by
  have _hu := And.intro hi hl
  have cM : Hid (KpDoes 70 #[.pointer (some ⟨p, 0, none⟩)] W K p (spendM m) (.tuple #[])) := kpSpend_any K p _ _ _ _ _ _ _ _ _ ads m W h hb hf
  obtain ⟨M, hM⟩ : ∃ M, Hid (spendM m = M) := ⟨_, (rfl : spendM m = spendM m)⟩
  rw [hM.out] at cM ⊢
  unfold KpDoes at cM
  clear _hu h hi hb hl hf
  go_enter Try.func69, Try.ntmps69
  go_wp2_with fail
  go_at_call 70
  refine Calls.mono cM.out ?_
  rintro e w1 ⟨rfl, ⟨y0, m0, d0, y1, m1, d1, y2, m2, d2, ads2, hK⟩, hB⟩
  have HK : Hid (KpAt K w1 p (.slice y0 m0 d0) (.slice y1 m1 d1) (.slice y2 m2 d2) ads2 M) := hK
  have HBl : Hid (Below K W w1) := hB
  clear hK hB cM
  go_wp2
  go_returns
  exact ⟨rfl, ⟨_, _, _, _, _, _, _, _, _, _, HK.out⟩, But.of HBl.out⟩

set_option maxRecDepth 100000 in
set_option maxHeartbeats 3200000 in
theorem clTold_any (K p : Nat) (x0 : Option Addr) (n0 c0 : Nat) (x1 : Option Addr) (n1 c1 : Nat) (x2 : Option Addr) (n2 c2 : Nat) (ads : List (Nat × Nat)) (m : Mm) (k : Int) (bn : Nat) (W : World) (h : KpAt K W p (.slice x0 n0 c0) (.slice x1 n1 c1) (.slice x2 n2 c2) ads m) (hi : OwnsI W K (.slice x1 n1 c1) m.input) (hb : m.bad = 0) (hl : szMm m ≤ 2000000) (hbn : W.heap[bn]? = some (.cells #[.int .i64 k] 3 (0, 0))) :
    Calls Try.prog 74 #[.pointer (some ⟨p, 0, none⟩), .pointer (some ⟨bn, 0, none⟩)] W fun e w' => e = .returned (.tuple #[]) ∧ (∃ x0 n0 c0 x1 n1 c1 x2 n2 c2 ads, KpAt K w' p (.slice x0 n0 c0) (.slice x1 n1 c1) (.slice x2 n2 c2) ads (toldM m k)) ∧ But K K W w' := by
  have _hu := And.intro hi hl
  have cM : Hid (KpDoes 75 #[.pointer (some ⟨p, 0, none⟩), .int .i64 k] W K p (toldM m k) (.tuple #[])) := kpTold_any K p _ _ _ _ _ _ _ _ _ ads m k W h hb hl
  obtain ⟨M, hM⟩ : ∃ M, Hid (toldM m k = M) := ⟨_, (rfl : toldM m k = toldM m k)⟩
  rw [hM.out] at cM ⊢
  unfold KpDoes at cM
  have bn0 := cell_at hbn 0
  simp at bn0
  clear _hu h hi hb hl hbn
  go_enter Try.func74, Try.ntmps74
  go_wp2_with fail
  go_at_call 75
  refine Calls.mono cM.out ?_
  rintro e w1 ⟨rfl, ⟨y0, m0, d0, y1, m1, d1, y2, m2, d2, ads2, hK⟩, hB⟩
  have HK : Hid (KpAt K w1 p (.slice y0 m0 d0) (.slice y1 m1 d1) (.slice y2 m2 d2) ads2 M) := hK
  have HBl : Hid (Below K W w1) := hB
  clear hK hB cM
  go_wp2
  go_returns
  exact ⟨rfl, ⟨_, _, _, _, _, _, _, _, _, _, HK.out⟩, But.of HBl.out⟩

set_option maxRecDepth 100000 in
set_option maxHeartbeats 3200000 in
theorem clFreed_any (K p : Nat) (x0 : Option Addr) (n0 c0 : Nat) (x1 : Option Addr) (n1 c1 : Nat) (x2 : Option Addr) (n2 c2 : Nat) (ads : List (Nat × Nat)) (m : Mm) (t k : Int) (bv : Nat) (W : World) (h : KpAt K W p (.slice x0 n0 c0) (.slice x1 n1 c1) (.slice x2 n2 c2) ads m) (hi : OwnsI W K (.slice x1 n1 c1) m.input) (hb : m.bad = 0) (hl : szMm m ≤ 2000000) (hbv : W.heap[bv]? = some (.cells #[.int .i64 t, .int .i64 k] 31 (0, 0))) :
    Calls Try.prog 53 #[.pointer (some ⟨p, 0, none⟩), .pointer (some ⟨bv, 0, none⟩)] W fun e w' => e = .returned (.tuple #[]) ∧ (∃ x0 n0 c0 x1 n1 c1 x2 n2 c2 ads, KpAt K w' p (.slice x0 n0 c0) (.slice x1 n1 c1) (.slice x2 n2 c2) ads (freedM m t k)) ∧ But K K W w' := by
  have _hu := And.intro hi hl
  have cM : Hid (KpDoes 54 #[.pointer (some ⟨p, 0, none⟩), .agg #[.int .i64 t, .int .i64 k]] W K p (freedM m t k) (.tuple #[])) := kpFreed_any K p _ _ _ _ _ _ _ _ _ ads m t k W h hb (cells_le hl)
  obtain ⟨M, hM⟩ : ∃ M, Hid (freedM m t k = M) := ⟨_, (rfl : freedM m t k = freedM m t k)⟩
  rw [hM.out] at cM ⊢
  unfold KpDoes at cM
  have bv0 := cell_at hbv 0
  have bv1 := cell_at hbv 1
  simp at bv0 bv1
  clear _hu h hi hb hl hbv
  go_enter Try.func53, Try.ntmps53
  go_wp2_with fail
  go_at_call 54
  refine Calls.mono cM.out ?_
  rintro e w1 ⟨rfl, ⟨y0, m0, d0, y1, m1, d1, y2, m2, d2, ads2, hK⟩, hB⟩
  have HK : Hid (KpAt K w1 p (.slice y0 m0 d0) (.slice y1 m1 d1) (.slice y2 m2 d2) ads2 M) := hK
  have HBl : Hid (Below K W w1) := hB
  clear hK hB cM
  go_wp2
  go_returns
  exact ⟨rfl, ⟨_, _, _, _, _, _, _, _, _, _, HK.out⟩, But.of HBl.out⟩

set_option maxRecDepth 100000 in
set_option maxHeartbeats 3200000 in
theorem clWritten_any (K p : Nat) (x0 : Option Addr) (n0 c0 : Nat) (x1 : Option Addr) (n1 c1 : Nat) (x2 : Option Addr) (n2 c2 : Nat) (ads : List (Nat × Nat)) (m : Mm) (t k nn : Int) (bv bn : Nat) (W : World) (h : KpAt K W p (.slice x0 n0 c0) (.slice x1 n1 c1) (.slice x2 n2 c2) ads m) (hi : OwnsI W K (.slice x1 n1 c1) m.input) (hb : m.bad = 0) (hl : szMm m ≤ 2000000) (hbv : W.heap[bv]? = some (.cells #[.int .i64 t, .int .i64 k] 31 (0, 0))) (hbn : W.heap[bn]? = some (.cells #[.int .i64 nn] 3 (0, 0))) :
    Calls Try.prog 51 #[.pointer (some ⟨p, 0, none⟩), .pointer (some ⟨bv, 0, none⟩), .pointer (some ⟨bn, 0, none⟩)] W fun e w' => e = .returned (.tuple #[]) ∧ (∃ x0 n0 c0 x1 n1 c1 x2 n2 c2 ads, KpAt K w' p (.slice x0 n0 c0) (.slice x1 n1 c1) (.slice x2 n2 c2) ads (writtenM m t k nn)) ∧ But K K W w' := by
  have _hu := And.intro hi hl
  have cM : Hid (KpDoes 52 #[.pointer (some ⟨p, 0, none⟩), .agg #[.int .i64 t, .int .i64 k], .int .i64 nn] W K p (writtenM m t k nn) (.tuple #[])) := kpWritten_any K p _ _ _ _ _ _ _ _ _ ads m t k nn W h hb (cells_le hl)
  obtain ⟨M, hM⟩ : ∃ M, Hid (writtenM m t k nn = M) := ⟨_, (rfl : writtenM m t k nn = writtenM m t k nn)⟩
  rw [hM.out] at cM ⊢
  unfold KpDoes at cM
  have bv0 := cell_at hbv 0
  have bv1 := cell_at hbv 1
  simp at bv0 bv1
  have bn0 := cell_at hbn 0
  simp at bn0
  clear _hu h hi hb hl hbv hbn
  go_enter Try.func51, Try.ntmps51
  go_wp2_with fail
  go_at_call 52
  refine Calls.mono cM.out ?_
  rintro e w1 ⟨rfl, ⟨y0, m0, d0, y1, m1, d1, y2, m2, d2, ads2, hK⟩, hB⟩
  have HK : Hid (KpAt K w1 p (.slice y0 m0 d0) (.slice y1 m1 d1) (.slice y2 m2 d2) ads2 M) := hK
  have HBl : Hid (Below K W w1) := hB
  clear hK hB cM
  go_wp2
  go_returns
  exact ⟨rfl, ⟨_, _, _, _, _, _, _, _, _, _, HK.out⟩, But.of HBl.out⟩

set_option maxRecDepth 100000 in
set_option maxHeartbeats 3200000 in
theorem clLooked_any (K p : Nat) (x0 : Option Addr) (n0 c0 : Nat) (x1 : Option Addr) (n1 c1 : Nat) (x2 : Option Addr) (n2 c2 : Nat) (ads : List (Nat × Nat)) (m : Mm) (t k : Int) (bv rb : Nat) (W : World) (h : KpAt K W p (.slice x0 n0 c0) (.slice x1 n1 c1) (.slice x2 n2 c2) ads m) (hi : OwnsI W K (.slice x1 n1 c1) m.input) (hb : m.bad = 0) (hl : szMm m ≤ 2000000) (hbv : W.heap[bv]? = some (.cells #[.int .i64 t, .int .i64 k] 31 (0, 0))) (hrb : W.heap[rb]? = some (.cells #[.int .i64 0] 3 (0, 0))) (hrK : rb < K) :
    Calls Try.prog 47 #[.pointer (some ⟨p, 0, none⟩), .pointer (some ⟨bv, 0, none⟩), .pointer (some ⟨rb, 0, none⟩)] W fun e w' => e = .returned (.tuple #[]) ∧ (∃ x0 n0 c0 x1 n1 c1 x2 n2 c2 ads, KpAt K w' p (.slice x0 n0 c0) (.slice x1 n1 c1) (.slice x2 n2 c2) ads ((lookedM m t k).1)) ∧ w'.heap[rb]? = some (.cells #[.int .i64 (lookedM m t k).2] 3 (0, 0)) ∧ But K rb W w' := by
  have _hu := And.intro hi hl
  have cM : Hid (KpDoes 48 #[.pointer (some ⟨p, 0, none⟩), .agg #[.int .i64 t, .int .i64 k]] W K p ((lookedM m t k).1) (.int .i64 (lookedM m t k).2)) := kpLooked_any K p _ _ _ _ _ _ _ _ _ ads m t k W h hb (cells_le hl)
  obtain ⟨M, hM⟩ : ∃ M, Hid ((lookedM m t k).1 = M) := ⟨_, (rfl : (lookedM m t k).1 = (lookedM m t k).1)⟩
  rw [hM.out] at cM ⊢
  unfold KpDoes at cM
  obtain ⟨r0, hr0⟩ : ∃ r, Hid ((lookedM m t k).2 = r) := ⟨_, (rfl : (lookedM m t k).2 = _)⟩
  rw [hr0.out] at cM ⊢
  have bv0 := cell_at hbv 0
  have bv1 := cell_at hbv 1
  simp at bv0 bv1
  have HRK : Hid (W.heap[rb]? = some (.cells #[.int .i64 0] 3 (0, 0)) ∧ rb < K) := ⟨hrb, hrK⟩
  clear _hu h hi hb hl hbv hrb hrK
  go_enter Try.func47, Try.ntmps47
  go_wp2_with fail
  go_at_call 48
  refine Calls.mono cM.out ?_
  rintro e w1 ⟨rfl, ⟨y0, m0, d0, y1, m1, d1, y2, m2, d2, ads2, hK⟩, hB⟩
  have HK : Hid (KpAt K w1 p (.slice y0 m0 d0) (.slice y1 m1 d1) (.slice y2 m2 d2) ads2 M) := hK
  have HBl : Hid (Below K W w1) := hB
  have hrb1 := (hB.block rb HRK.out.2).trans HRK.out.1
  have q0 := cell_at hrb1 0
  have fq0 := free_at hrb1 0
  simp at q0
  have HRB : Hid _ := hrb1
  clear hrb1 hK hB cM
  have HF : Hid (KpAt K (w1.setCell ⟨rb, 0, none⟩ (.int .i64 r0)) p (.slice y0 m0 d0) (.slice y1 m1 d1) (.slice y2 m2 d2) ads2 M ∧ (w1.setCell ⟨rb, 0, none⟩ (.int .i64 r0)).heap[rb]? = some (.cells #[.int .i64 r0] 3 (0, 0)) ∧ But K rb W (w1.setCell ⟨rb, 0, none⟩ (.int .i64 r0))) := ⟨(HK.out.under (j := 0) (u := .int .i64 r0) HRK.out.2), (heap_set HRB.out), ((But.of (rb := rb) HBl.out).set (j := 0) (u := .int .i64 r0))⟩
  go_wp2
  go_returns
  exact ⟨rfl, ⟨_, _, _, _, _, _, _, _, _, _, HF.out.1⟩, HF.out.2⟩

set_option maxRecDepth 100000 in
set_option maxHeartbeats 3200000 in
theorem clAsked_any (K p : Nat) (x0 : Option Addr) (n0 c0 : Nat) (x1 : Option Addr) (n1 c1 : Nat) (x2 : Option Addr) (n2 c2 : Nat) (ads : List (Nat × Nat)) (m : Mm) (rb : Nat) (W : World) (h : KpAt K W p (.slice x0 n0 c0) (.slice x1 n1 c1) (.slice x2 n2 c2) ads m) (hi : OwnsI W K (.slice x1 n1 c1) m.input) (hb : m.bad = 0) (hl : szMm m ≤ 2000000) (hrb : W.heap[rb]? = some (.cells #[.int .i64 0] 3 (0, 0))) (hrK : rb < K) :
    Calls Try.prog 62 #[.pointer (some ⟨p, 0, none⟩), .pointer (some ⟨rb, 0, none⟩)] W fun e w' => e = .returned (.tuple #[]) ∧ (∃ x0 n0 c0 x1 n1 c1 x2 n2 c2 ads, KpAt K w' p (.slice x0 n0 c0) (.slice x1 n1 c1) (.slice x2 n2 c2) ads ((askedM m).1)) ∧ w'.heap[rb]? = some (.cells #[.int .i64 (askedM m).2] 3 (0, 0)) ∧ But K rb W w' := by
  have _hu := And.intro hi hl
  have cM : Hid (KpDoes 63 #[.pointer (some ⟨p, 0, none⟩)] W K p ((askedM m).1) (.int .i64 (askedM m).2)) := kpAsked_any K p _ _ _ _ _ _ _ _ _ ads m W h hi hb hl
  obtain ⟨M, hM⟩ : ∃ M, Hid ((askedM m).1 = M) := ⟨_, (rfl : (askedM m).1 = (askedM m).1)⟩
  rw [hM.out] at cM ⊢
  unfold KpDoes at cM
  obtain ⟨r0, hr0⟩ : ∃ r, Hid ((askedM m).2 = r) := ⟨_, (rfl : (askedM m).2 = _)⟩
  rw [hr0.out] at cM ⊢
  have HRK : Hid (W.heap[rb]? = some (.cells #[.int .i64 0] 3 (0, 0)) ∧ rb < K) := ⟨hrb, hrK⟩
  clear _hu h hi hb hl hrb hrK
  go_enter Try.func62, Try.ntmps62
  go_wp2_with fail
  go_at_call 63
  refine Calls.mono cM.out ?_
  rintro e w1 ⟨rfl, ⟨y0, m0, d0, y1, m1, d1, y2, m2, d2, ads2, hK⟩, hB⟩
  have HK : Hid (KpAt K w1 p (.slice y0 m0 d0) (.slice y1 m1 d1) (.slice y2 m2 d2) ads2 M) := hK
  have HBl : Hid (Below K W w1) := hB
  have hrb1 := (hB.block rb HRK.out.2).trans HRK.out.1
  have q0 := cell_at hrb1 0
  have fq0 := free_at hrb1 0
  simp at q0
  have HRB : Hid _ := hrb1
  clear hrb1 hK hB cM
  have HF : Hid (KpAt K (w1.setCell ⟨rb, 0, none⟩ (.int .i64 r0)) p (.slice y0 m0 d0) (.slice y1 m1 d1) (.slice y2 m2 d2) ads2 M ∧ (w1.setCell ⟨rb, 0, none⟩ (.int .i64 r0)).heap[rb]? = some (.cells #[.int .i64 r0] 3 (0, 0)) ∧ But K rb W (w1.setCell ⟨rb, 0, none⟩ (.int .i64 r0))) := ⟨(HK.out.under (j := 0) (u := .int .i64 r0) HRK.out.2), (heap_set HRB.out), ((But.of (rb := rb) HBl.out).set (j := 0) (u := .int .i64 r0))⟩
  go_wp2
  go_returns
  exact ⟨rfl, ⟨_, _, _, _, _, _, _, _, _, _, HF.out.1⟩, HF.out.2⟩

set_option maxRecDepth 100000 in
set_option maxHeartbeats 3200000 in
theorem clSummed_any (K p : Nat) (x0 : Option Addr) (n0 c0 : Nat) (x1 : Option Addr) (n1 c1 : Nat) (x2 : Option Addr) (n2 c2 : Nat) (ads : List (Nat × Nat)) (m : Mm) (ga gb : Int) (ba bb rb : Nat) (W : World) (h : KpAt K W p (.slice x0 n0 c0) (.slice x1 n1 c1) (.slice x2 n2 c2) ads m) (hi : OwnsI W K (.slice x1 n1 c1) m.input) (hb : m.bad = 0) (hl : szMm m ≤ 2000000) (hba : W.heap[ba]? = some (.cells #[.int .i64 ga] 3 (0, 0))) (hbb : W.heap[bb]? = some (.cells #[.int .i64 gb] 3 (0, 0))) (hrb : W.heap[rb]? = some (.cells #[.int .i64 0] 3 (0, 0))) (hrK : rb < K) :
    Calls Try.prog 65 #[.pointer (some ⟨p, 0, none⟩), .pointer (some ⟨ba, 0, none⟩), .pointer (some ⟨bb, 0, none⟩), .pointer (some ⟨rb, 0, none⟩)] W fun e w' => e = .returned (.tuple #[]) ∧ (∃ x0 n0 c0 x1 n1 c1 x2 n2 c2 ads, KpAt K w' p (.slice x0 n0 c0) (.slice x1 n1 c1) (.slice x2 n2 c2) ads ((summedM m ga gb).1)) ∧ w'.heap[rb]? = some (.cells #[.int .i64 (summedM m ga gb).2] 3 (0, 0)) ∧ But K rb W w' := by
  have _hu := And.intro hi hl
  have cM : Hid (KpDoes 66 #[.pointer (some ⟨p, 0, none⟩), .int .i64 ga, .int .i64 gb] W K p ((summedM m ga gb).1) (.int .i64 (summedM m ga gb).2)) := kpSummed_any K p _ _ _ _ _ _ _ _ _ ads m ga gb W h hb
  obtain ⟨M, hM⟩ : ∃ M, Hid ((summedM m ga gb).1 = M) := ⟨_, (rfl : (summedM m ga gb).1 = (summedM m ga gb).1)⟩
  rw [hM.out] at cM ⊢
  unfold KpDoes at cM
  obtain ⟨r0, hr0⟩ : ∃ r, Hid ((summedM m ga gb).2 = r) := ⟨_, (rfl : (summedM m ga gb).2 = _)⟩
  rw [hr0.out] at cM ⊢
  have ba0 := cell_at hba 0
  simp at ba0
  have bb0 := cell_at hbb 0
  simp at bb0
  have HRK : Hid (W.heap[rb]? = some (.cells #[.int .i64 0] 3 (0, 0)) ∧ rb < K) := ⟨hrb, hrK⟩
  clear _hu h hi hb hl hba hbb hrb hrK
  go_enter Try.func65, Try.ntmps65
  go_wp2_with fail
  go_at_call 66
  refine Calls.mono cM.out ?_
  rintro e w1 ⟨rfl, ⟨y0, m0, d0, y1, m1, d1, y2, m2, d2, ads2, hK⟩, hB⟩
  have HK : Hid (KpAt K w1 p (.slice y0 m0 d0) (.slice y1 m1 d1) (.slice y2 m2 d2) ads2 M) := hK
  have HBl : Hid (Below K W w1) := hB
  have hrb1 := (hB.block rb HRK.out.2).trans HRK.out.1
  have q0 := cell_at hrb1 0
  have fq0 := free_at hrb1 0
  simp at q0
  have HRB : Hid _ := hrb1
  clear hrb1 hK hB cM
  have HF : Hid (KpAt K (w1.setCell ⟨rb, 0, none⟩ (.int .i64 r0)) p (.slice y0 m0 d0) (.slice y1 m1 d1) (.slice y2 m2 d2) ads2 M ∧ (w1.setCell ⟨rb, 0, none⟩ (.int .i64 r0)).heap[rb]? = some (.cells #[.int .i64 r0] 3 (0, 0)) ∧ But K rb W (w1.setCell ⟨rb, 0, none⟩ (.int .i64 r0))) := ⟨(HK.out.under (j := 0) (u := .int .i64 r0) HRK.out.2), (heap_set HRB.out), ((But.of (rb := rb) HBl.out).set (j := 0) (u := .int .i64 r0))⟩
  go_wp2
  go_returns
  exact ⟨rfl, ⟨_, _, _, _, _, _, _, _, _, _, HF.out.1⟩, HF.out.2⟩

set_option maxRecDepth 100000 in
set_option maxHeartbeats 3200000 in
theorem clFresh_any (K p : Nat) (x0 : Option Addr) (n0 c0 : Nat) (x1 : Option Addr) (n1 c1 : Nat) (x2 : Option Addr) (n2 c2 : Nat) (ads : List (Nat × Nat)) (m : Mm) (k : Int) (bn rb : Nat) (W : World) (h : KpAt K W p (.slice x0 n0 c0) (.slice x1 n1 c1) (.slice x2 n2 c2) ads m) (hi : OwnsI W K (.slice x1 n1 c1) m.input) (hb : m.bad = 0) (hl : szMm m ≤ 2000000) (hbn : W.heap[bn]? = some (.cells #[.int .i64 k] 3 (0, 0))) (hrb : W.heap[rb]? = some (.cells #[.int .i64 0, .int .i64 0] 31 (0, 0))) (hrK : rb < K) :
    Calls Try.prog 45 #[.pointer (some ⟨p, 0, none⟩), .pointer (some ⟨bn, 0, none⟩), .pointer (some ⟨rb, 0, none⟩)] W fun e w' => e = .returned (.tuple #[]) ∧ (∃ x0 n0 c0 x1 n1 c1 x2 n2 c2 ads, KpAt K w' p (.slice x0 n0 c0) (.slice x1 n1 c1) (.slice x2 n2 c2) ads ((freshM m k).1)) ∧ w'.heap[rb]? = some (.cells #[.int .i64 (freshM m k).2.1, .int .i64 (freshM m k).2.2] 31 (0, 0)) ∧ But K rb W w' := by
  have _hu := And.intro hi hl
  have cM : Hid (KpDoes 46 #[.pointer (some ⟨p, 0, none⟩), .int .i64 k] W K p ((freshM m k).1) (.agg #[.int .i64 (freshM m k).2.1, .int .i64 (freshM m k).2.2])) := (by have h5 := kpFresh_any K p _ _ _ _ _ _ _ _ _ ads m k W h (cells_le hl); have e5 : freshM m k = (pushM m k, 2, (m.cells.length : Int)) := by { unfold freshM; rw [if_pos hb] }; rw [e5]; exact h5.mono (fun e w2 h => ⟨h.1.1, (by obtain ⟨y0, m0, d0, ads2, h1, _⟩ := h.1.2.1; exact ⟨_, _, _, _, _, _, _, _, _, _, h1⟩), h.1.2.2⟩))
  obtain ⟨M, hM⟩ : ∃ M, Hid ((freshM m k).1 = M) := ⟨_, (rfl : (freshM m k).1 = (freshM m k).1)⟩
  rw [hM.out] at cM ⊢
  unfold KpDoes at cM
  obtain ⟨r0, hr0⟩ : ∃ r, Hid ((freshM m k).2.1 = r) := ⟨_, (rfl : (freshM m k).2.1 = _)⟩
  rw [hr0.out] at cM ⊢
  obtain ⟨r1, hr1⟩ : ∃ r, Hid ((freshM m k).2.2 = r) := ⟨_, (rfl : (freshM m k).2.2 = _)⟩
  rw [hr1.out] at cM ⊢
  have bn0 := cell_at hbn 0
  simp at bn0
  have HRK : Hid (W.heap[rb]? = some (.cells #[.int .i64 0, .int .i64 0] 31 (0, 0)) ∧ rb < K) := ⟨hrb, hrK⟩
  clear _hu h hi hb hl hbn hrb hrK
  go_enter Try.func45, Try.ntmps45
  go_wp2_with fail
  go_at_call 46
  refine Calls.mono cM.out ?_
  rintro e w1 ⟨rfl, ⟨y0, m0, d0, y1, m1, d1, y2, m2, d2, ads2, hK⟩, hB⟩
  have HK : Hid (KpAt K w1 p (.slice y0 m0 d0) (.slice y1 m1 d1) (.slice y2 m2 d2) ads2 M) := hK
  have HBl : Hid (Below K W w1) := hB
  have hrb1 := (hB.block rb HRK.out.2).trans HRK.out.1
  have q0 := cell_at hrb1 0
  have fq0 := free_at hrb1 0
  have q1 := cell_at hrb1 1
  have fq1 := free_at hrb1 1
  simp at q0 q1
  have HRB : Hid _ := hrb1
  clear hrb1 hK hB cM
  have HF : Hid (KpAt K ((w1.setCell ⟨rb, 0, none⟩ (.int .i64 r0)).setCell ⟨rb, 1, none⟩ (.int .i64 r1)) p (.slice y0 m0 d0) (.slice y1 m1 d1) (.slice y2 m2 d2) ads2 M ∧ ((w1.setCell ⟨rb, 0, none⟩ (.int .i64 r0)).setCell ⟨rb, 1, none⟩ (.int .i64 r1)).heap[rb]? = some (.cells #[.int .i64 r0, .int .i64 r1] 31 (0, 0)) ∧ But K rb W ((w1.setCell ⟨rb, 0, none⟩ (.int .i64 r0)).setCell ⟨rb, 1, none⟩ (.int .i64 r1))) := ⟨((HK.out.under (j := 0) (u := .int .i64 r0) HRK.out.2).under (j := 1) (u := .int .i64 r1) HRK.out.2), (heap_set (heap_set HRB.out)), (((But.of (rb := rb) HBl.out).set (j := 0) (u := .int .i64 r0)).set (j := 1) (u := .int .i64 r1))⟩
  go_wp2
  go_returns
  exact ⟨rfl, ⟨_, _, _, _, _, _, _, _, _, _, HF.out.1⟩, HF.out.2⟩

set_option maxRecDepth 100000 in
set_option maxHeartbeats 3200000 in
theorem clMoved_any (K p : Nat) (x0 : Option Addr) (n0 c0 : Nat) (x1 : Option Addr) (n1 c1 : Nat) (x2 : Option Addr) (n2 c2 : Nat) (ads : List (Nat × Nat)) (m : Mm) (t k : Int) (bv rb : Nat) (W : World) (h : KpAt K W p (.slice x0 n0 c0) (.slice x1 n1 c1) (.slice x2 n2 c2) ads m) (hi : OwnsI W K (.slice x1 n1 c1) m.input) (hb : m.bad = 0) (hl : szMm m ≤ 2000000) (hbv : W.heap[bv]? = some (.cells #[.int .i64 t, .int .i64 k] 31 (0, 0))) (hrb : W.heap[rb]? = some (.cells #[.int .i64 0, .int .i64 0] 31 (0, 0))) (hrK : rb < K) :
    Calls Try.prog 49 #[.pointer (some ⟨p, 0, none⟩), .pointer (some ⟨bv, 0, none⟩), .pointer (some ⟨rb, 0, none⟩)] W fun e w' => e = .returned (.tuple #[]) ∧ (∃ x0 n0 c0 x1 n1 c1 x2 n2 c2 ads, KpAt K w' p (.slice x0 n0 c0) (.slice x1 n1 c1) (.slice x2 n2 c2) ads ((movedM m t k).1)) ∧ w'.heap[rb]? = some (.cells #[.int .i64 (movedM m t k).2.1, .int .i64 (movedM m t k).2.2] 31 (0, 0)) ∧ But K rb W w' := by
  have _hu := And.intro hi hl
  have cM : Hid (KpDoes 50 #[.pointer (some ⟨p, 0, none⟩), .agg #[.int .i64 t, .int .i64 k]] W K p ((movedM m t k).1) (.agg #[.int .i64 (movedM m t k).2.1, .int .i64 (movedM m t k).2.2])) := kpMoved_any K p _ _ _ _ _ _ _ _ _ ads m t k W h hb (cells_le hl)
  obtain ⟨M, hM⟩ : ∃ M, Hid ((movedM m t k).1 = M) := ⟨_, (rfl : (movedM m t k).1 = (movedM m t k).1)⟩
  rw [hM.out] at cM ⊢
  unfold KpDoes at cM
  obtain ⟨r0, hr0⟩ : ∃ r, Hid ((movedM m t k).2.1 = r) := ⟨_, (rfl : (movedM m t k).2.1 = _)⟩
  rw [hr0.out] at cM ⊢
  obtain ⟨r1, hr1⟩ : ∃ r, Hid ((movedM m t k).2.2 = r) := ⟨_, (rfl : (movedM m t k).2.2 = _)⟩
  rw [hr1.out] at cM ⊢
  have bv0 := cell_at hbv 0
  have bv1 := cell_at hbv 1
  simp at bv0 bv1
  have HRK : Hid (W.heap[rb]? = some (.cells #[.int .i64 0, .int .i64 0] 31 (0, 0)) ∧ rb < K) := ⟨hrb, hrK⟩
  clear _hu h hi hb hl hbv hrb hrK
  go_enter Try.func49, Try.ntmps49
  go_wp2_with fail
  go_at_call 50
  refine Calls.mono cM.out ?_
  rintro e w1 ⟨rfl, ⟨y0, m0, d0, y1, m1, d1, y2, m2, d2, ads2, hK⟩, hB⟩
  have HK : Hid (KpAt K w1 p (.slice y0 m0 d0) (.slice y1 m1 d1) (.slice y2 m2 d2) ads2 M) := hK
  have HBl : Hid (Below K W w1) := hB
  have hrb1 := (hB.block rb HRK.out.2).trans HRK.out.1
  have q0 := cell_at hrb1 0
  have fq0 := free_at hrb1 0
  have q1 := cell_at hrb1 1
  have fq1 := free_at hrb1 1
  simp at q0 q1
  have HRB : Hid _ := hrb1
  clear hrb1 hK hB cM
  have HF : Hid (KpAt K ((w1.setCell ⟨rb, 0, none⟩ (.int .i64 r0)).setCell ⟨rb, 1, none⟩ (.int .i64 r1)) p (.slice y0 m0 d0) (.slice y1 m1 d1) (.slice y2 m2 d2) ads2 M ∧ ((w1.setCell ⟨rb, 0, none⟩ (.int .i64 r0)).setCell ⟨rb, 1, none⟩ (.int .i64 r1)).heap[rb]? = some (.cells #[.int .i64 r0, .int .i64 r1] 31 (0, 0)) ∧ But K rb W ((w1.setCell ⟨rb, 0, none⟩ (.int .i64 r0)).setCell ⟨rb, 1, none⟩ (.int .i64 r1))) := ⟨((HK.out.under (j := 0) (u := .int .i64 r0) HRK.out.2).under (j := 1) (u := .int .i64 r1) HRK.out.2), (heap_set (heap_set HRB.out)), (((But.of (rb := rb) HBl.out).set (j := 0) (u := .int .i64 r0)).set (j := 1) (u := .int .i64 r1))⟩
  go_wp2
  go_returns
  exact ⟨rfl, ⟨_, _, _, _, _, _, _, _, _, _, HF.out.1⟩, HF.out.2⟩

end Go.Proofs.Ytabejilnpblogaa
