/-
  Rows of numbers, and rows of nodes: what is read of them, and what a call owns.
  What the laws do with rows of nodes that are read: held against each other, measured.
  What the laws' helpers answer of rows of numbers.
  Rows that came in, opened: where their cells lie, and that their numbers fit.
  What the laws' helpers answer of rows of Param: held against each other, measured, copied, marked. Written by mkrow.py.
  What the laws' helpers answer of rows of Fn: held against each other, measured, copied, marked. Written by mkrow.py.
  FnAt, in the model and in the program: what it answers at every program and every name.
  What the laws' helpers answer of rows of Node: held against each other, measured, copied, marked. Written by mkrow.py.
  What the laws' helpers answer of programs: held against each other, measured, copied.
  A program that came in, opened.
-/
import Derived.Test.YtabejilnpblogaaKa
import Derived.Test.YtabejilnpblogaaPa
import Derived.Test.YtabejilnpblogaaNa
import Derived.Handy
import Derived.BigQuiet
import Derived.Deep.QuietTactic
import Derived.Deep.RegionHeld3
import Derived.Deep.Slices
import Derived.ChangeSame
namespace Go.Proofs.Ytabejilnpblogaa
open Go.RowKit

def inC (x : Int) : List Value := [.int .i64 x]
theorem inC_len (x : Int) : (inC x).length = 1 := rfl
/-- A row of numbers below block B. -/
def RowI (w : World) (B : Nat) (v : Value) (xs : List Int) : Prop := RowR inC 1 w B v xs
theorem RowI.keep {w w' : World} {B : Nat} {v : Value} {xs : List Int} (h : RowI w B v xs) (hb : Below B w w') : RowI w' B v xs := RowR.keep h hb
theorem RowI.up {w : World} {B B' : Nat} {v : Value} {xs : List Int} (h : RowI w B v xs) (hB : B ≤ B') : RowI w B' v xs := RowR.up h hB
theorem RowI.len {w : World} {B : Nat} {v : Value} {xs : List Int} (h : RowI w B v xs) : ∃ a cap, v = .slice a xs.length cap := RowR.len h
theorem RowI.at {w : World} {B : Nat} {a : Option Addr} {n cap : Nat} {xs : List Int} (h : RowI w B (.slice a n cap) xs) (i : Nat) (hi : i < xs.length) : ∃ b off, a = some ⟨b, off, none⟩ ∧ b < B ∧ w.cell? ⟨b, off + i, none⟩ = some (.int .i64 xs[i]) := by
  obtain ⟨b, off, ha, hb, hc⟩ := RowR.at h i hi
  have := hc 0 (by omega)
  simp only [Nat.mul_one, Nat.add_zero] at this
  exact ⟨b, off, ha, hb, this⟩
theorem RowI.cap {w : World} {B : Nat} {a : Option Addr} {n cap : Nat} {xs : List Int} (h : RowI w B (.slice a n cap) xs) : xs.length = n ∧ n ≤ cap := RowR.cap h
/-- A row of numbers that the call owns. -/
def OwnsI (w : World) (B : Nat) (v : Value) (xs : List Int) : Prop := OwnsR inC 1 w B 3 v xs
theorem OwnsI.row {w : World} {B : Nat} {v : Value} {xs : List Int} (h : OwnsI w B v xs) : RowI w w.heap.size v xs := OwnsR.read inC_len h (fun g hg => (OwnsR.lt h g hg).2)

theorem fps_one (v : Value) : fps [v] = fpOf v := by simp [fps]

def ndC (p : Nd × Value) : List Value := [.int .i64 p.1.kind, .int .i64 p.1.num, .string p.1.name, p.2]
end Go.Proofs.Ytabejilnpblogaa

namespace Go.Proofs.Ytabejilnpblogaa
open Go.RowKit

theorem below_drawn {B : Nat} {a w : World} (h : Below B a w) (n : Nat) : Below B a (w.drewN n) := h.trans ⟨rfl, rfl, rfl, Nat.le_refl _, fun _ _ => rfl⟩

set_option maxHeartbeats 800000 in
theorem eqIntS_same (B : Nat) (va vb : Value) (xs : List Int) (w : World) (hB : B ≤ w.heap.size) (ha : RowI w B va xs) (hb : RowI w B vb xs) (hl : xs.length ≤ 1048576) :
    Calls Try.prog 81 #[va, vb] w fun e w' => e = .returned (.bool true) ∧ Below w.heap.size w w' := by
  obtain ⟨a, ca, rfl⟩ := ha.len
  obtain ⟨b, cb, rfl⟩ := hb.len
  obtain ⟨N, HN⟩ : ∃ N, Hid (xs.length = N) := ⟨_, (rfl : xs.length = xs.length)⟩
  have H : Hid (RowI w B (.slice a N ca) xs ∧ RowI w B (.slice b N cb) xs) := by rw [← HN.out]; exact ⟨ha, hb⟩
  rw [HN.out] at hl ⊢
  clear ha hb
  go_enter Try.func81, Try.ntmps81
  go_wp2
  go_loopw [5] (fun i wr => ∃ k : Nat, k ≤ N ∧ i = .int .i64 (k : Int) ∧ Below w.heap.size w wr) (fun i _ => N - (intOf i).toNat)
  case atStart => exact ⟨0, Nat.zero_le _, rfl, Below.refl _ _⟩
  case round =>
    obtain ⟨k, hk, rfl, hbw⟩ := hrel
    by_cases hlt : k < N
    · have hk1 : (k : Int) < (N : Int) := by omega
      have hk0 : (0 : Int) ≤ (k : Int) := by omega
      have hkl : k < xs.length := by have := HN.out; omega
      obtain ⟨ba, oa, rfl, hba, c0⟩ := H.out.1.at k hkl
      obtain ⟨bb, ob, rfl, hbb, e0⟩ := H.out.2.at k hkl
      obtain ⟨q, hq⟩ : ∃ q, Hid (xs[k] = q) := ⟨_, (rfl : xs[k] = xs[k])⟩
      have d0 := (hbw.cell (p := ⟨ba, oa + k, none⟩) (by show ba < _; omega)).trans c0
      have f0 := (hbw.cell (p := ⟨bb, ob + k, none⟩) (by show bb < _; omega)).trans e0
      rw [hq.out] at d0 f0
      clear c0 e0
      go_wp2_with fail
      go_quiet (fail)
      go_wp2
      go_roundw
      case rel => exact ⟨k + 1, by omega, by go_num, below_drawn hbw _⟩
      case measure => simp [intOf]; omega
    · go_wp2
      go_ret
      exact ⟨rfl, hbw⟩

end Go.Proofs.Ytabejilnpblogaa

namespace Go.Proofs.Ytabejilnpblogaa
open Go.RowKit

theorem szIntS_sum (B : Nat) (v : Value) (xs : List Int) (left : Int) (w : World) (_hB : B ≤ w.heap.size) (hv : RowI w B v xs) (hok : xs.length ≤ 9223372036854775807) (h0 : 0 ≤ left) (h1 : left ≤ 1048576) :
    Calls Try.prog 78 #[v, .int .i64 left] w fun e w' => (∃ r : Int, e = .returned (.int .i64 r) ∧ (r = -1 ∨ (0 ≤ r ∧ r + (xs.length : Int) = left))) ∧ Below w.heap.size w w' := by
  obtain ⟨a, cap, rfl⟩ := hv.len
  obtain ⟨n, HN⟩ : ∃ N, Hid (xs.length = N) := ⟨_, (rfl : xs.length = xs.length)⟩
  rw [HN.out] at hok ⊢
  clear hv
  by_cases h : left - (n : Int) < 0
  · go_enter Try.func78, Try.ntmps78
    go_wp2
    go_ret
    exact ⟨⟨_, rfl, .inl rfl⟩, Below.refl _ _⟩
  · go_enter Try.func78, Try.ntmps78
    go_wp2
    go_ret
    exact ⟨⟨_, rfl, .inr ⟨by omega, by omega⟩⟩, Below.refl _ _⟩

theorem Try.infoInt : (Try.prog.info? 3).map (fun i => (i.zero, i.size, i.bytes)) = some (some (.int .i64 0), 1, 8) := by kernel_rfl

theorem zero_ints (m : Nat) : (madeCells (Value.int .i64 0).cells (m * 1)).toList = (List.replicate m (0 : Int)).flatMap inC := by
  apply List.ext_getElem?
  intro i
  have hl : ((List.replicate m (0 : Int)).flatMap inC).length = m * 1 := by rw [flat_len inC_len, List.length_replicate]
  have hl2 : (madeCells (Value.int .i64 0).cells (m * 1)).toList.length = m * 1 := by rw [Array.length_toList, size_madeCells]
  by_cases hi : i < m * 1
  · have h1 : i < (List.replicate m (0 : Int)).length := by rw [List.length_replicate]; omega
    have h2 := flat_at inC_len (List.replicate m (0 : Int)) i 0 h1 (by omega)
    rw [Nat.mul_one, Nat.add_zero] at h2
    rw [h2, List.getElem?_eq_getElem (by omega)]
    simp [madeCells, inC, Value.cells, Nat.mod_one]
  · rw [List.getElem?_eq_none (by omega), List.getElem?_eq_none (by omega)]

theorem take_set {α : Type} (xs : List α) (z : α) (N k : Nat) (hN : xs.length = N) (hk : k < N) (x : α) (hx : xs[k]'(by omega) = x) :
    (xs.take k ++ List.replicate (N - k) z).set k x = xs.take (k + 1) ++ List.replicate (N - (k + 1)) z := by
  have hl1 : (xs.take k).length = k := by simp; omega
  rw [List.set_append_right _ _ (by omega), hl1, Nat.sub_self, show N - k = (N - (k + 1)) + 1 by omega, List.replicate_succ, List.set_cons_zero, List.take_succ_eq_append_getElem (by omega), hx, List.append_assoc]
  rfl

set_option maxHeartbeats 800000 in
theorem toIntS_any (B : Nat) (v : Value) (xs : List Int) (w : World) (hB : B ≤ w.heap.size) (hv : RowI w B v xs) (hlen : xs.length ≤ 1048576) :
    Calls Try.prog 79 #[v] w fun e w' => ∃ g cap, e = .returned (.slice (some ⟨g, 0, none⟩) xs.length cap) ∧ OwnsI w' w.heap.size (.slice (some ⟨g, 0, none⟩) xs.length cap) xs ∧ Below w.heap.size w w' := by
  obtain ⟨a, cap, rfl⟩ := hv.len
  obtain ⟨N, HN⟩ : ∃ N, Hid (xs.length = N) := ⟨_, (rfl : xs.length = xs.length)⟩
  have H : Hid (RowI w B (.slice a N cap) xs) := by rw [← HN.out]; exact hv
  rw [HN.out] at hlen ⊢
  clear hv
  obtain ⟨i0, hi, hz0, hz1, hz2⟩ := info_parts Try.infoInt
  go_enter Try.func79, Try.ntmps79
  go_wp2_with (at_make; refine wpList_make_full _ rfl _ _ 25 rfl w.heap.size 3 i0 _ 1 Try.underlying25 hi hz0 hz1 _ _ _ _ N rfl rfl (by omega) (by omega) (by rw [hz2]; omega) (by unfold maxLen; omega) (Nat.le_refl _) ?_; intro w0 hown0 hg0)
  clear hi hz0 hz1 hz2
  go_loopw [4] (fun i wr => ∃ k : Nat, k ≤ N ∧ i = .int .i64 (k : Int) ∧ Hid (OwnsI wr w.heap.size (.slice (some ⟨w.heap.size, 0, none⟩) N N) (xs.take k ++ List.replicate (N - k) 0)) ∧ Below w.heap.size w wr) (fun i _ => N - (intOf i).toNat)
  case atStart =>
    refine ⟨0, Nat.zero_le _, rfl, ?_, (Below.refl _ _).grown hg0 (Nat.le_refl _) (fun k hk => by cases hk)⟩
    show OwnsI _ _ _ _
    unfold OwnsI OwnsR
    rw [List.take_zero, List.nil_append, Nat.sub_zero, List.length_replicate, ← zero_ints]
    exact hown0
  case round =>
    obtain ⟨k, hk, rfl, HO, hbw⟩ := hrel
    clear hown0 hg0
    by_cases hlt : k < N
    · have hk1 : (k : Int) < (N : Int) := by omega
      have hk0 : (0 : Int) ≤ (k : Int) := by omega
      have hkl : k < xs.length := by have := HN.out; omega
      obtain ⟨ba, oa, rfl, hba, c0⟩ := H.out.at k hkl
      obtain ⟨q, hq⟩ : ∃ q, Hid (xs[k] = q) := ⟨_, (rfl : xs[k] = xs[k])⟩
      have d0 := (hbw.cell (p := ⟨ba, oa + k, none⟩) (by show ba < _; omega)).trans c0
      rw [hq.out] at d0
      clear c0
      have hxl : N = (xs.take k ++ List.replicate (N - k) (0 : Int)).length := by have := HN.out; simp; omega
      obtain ⟨z, b0⟩ : ∃ z, wr.cell? ⟨w.heap.size, k, none⟩ = some (.int .i64 z) := ⟨_, by have := OwnsR.cell inC_len HO.out hxl k 0 (by omega) (by omega); simp only [Nat.mul_one, Nat.add_zero, inC, List.getElem?_cons_zero] at this; exact this⟩
      have f0 := OwnsR.free HO.out hxl k
      have S2 : Hid _ := OwnsR.stored inC_len HO.out hxl k 0 (by omega) (by omega) q (.int .i64 q) (by simp [inC])
      rw [take_set xs 0 N k HN.out hlt q hq.out] at S2
      simp only [Nat.mul_one, Nat.add_zero] at S2
      have HB2 : Hid (Below w.heap.size w (wr.setCell ⟨w.heap.size, k, none⟩ (.int .i64 q))) := hbw.setCell (p := ⟨w.heap.size, k, none⟩) (Nat.le_refl _) _
      clear HO hxl
      go_wp2
      go_roundw
      case rel => exact ⟨k + 1, by omega, by go_num, S2, HB2.out⟩
      case measure => simp [intOf]; omega
    · have hkN : Hid (k = N) := (by omega : k = N)
      have HF : Hid (OwnsI wr w.heap.size (.slice (some ⟨w.heap.size, 0, none⟩) N N) xs) := by
        have := HO.out
        rw [hkN.out, Nat.sub_self, List.replicate_zero, List.append_nil, List.take_of_length_le (by rw [HN.out]; exact Nat.le_refl _)] at this
        exact this
      go_wp2
      go_ret
      exact ⟨_, _, rfl, HF.out, hbw⟩

end Go.Proofs.Ytabejilnpblogaa

namespace Go.Proofs.Ytabejilnpblogaa
open Go.RowKit

theorem Try.cellsInt : Try.prog.cellsOf 3 = 1 := by kernel_rfl
theorem Try.cellsStr : Try.prog.cellsOf 9 = 1 := by kernel_rfl
theorem Try.cellsInts : Try.prog.cellsOf 25 = 1 := by kernel_rfl
theorem add_plain (b off i : Nat) : (⟨b, off, none⟩ : Addr).add i = ⟨b, off + i, none⟩ := by unfold Addr.add; split <;> simp_all

/-- A row out of its cells. -/
theorem rowR_of {α : Type} {enc : α → List Value} {k : Nat} {W : World} {ad : Addr} {len cap : Nat} (f : Nat → α) (hcap : len ≤ cap) (hk : 0 < k) (henc : ∀ x, (enc x).length = k) (h : ∀ i, i < len → ∀ j, j < k → W.cell? (ad.add (i * k + j)) = (enc (f i))[j]?) :
    RowR enc k W W.heap.size (.slice (some ad) len cap) ((List.range len).map f) := by
  by_cases h0 : len = 0
  · subst h0
    exact ⟨some ad, cap, rfl, by simp, .inl rfl⟩
  · obtain ⟨b, off, spot⟩ := ad
    have hc := h 0 (by omega) 0 hk
    obtain ⟨u, hu⟩ : ∃ u, (enc (f 0))[0]? = some u := ⟨_, List.getElem?_eq_getElem (by rw [henc]; exact hk)⟩
    rw [hu, Nat.zero_mul] at hc
    have hspot : spot = none := by simpa [Addr.add] using World.cell?_spot hc
    subst hspot
    rw [add_plain] at hc
    refine ⟨some ⟨b, off, none⟩, cap, by simp, by simpa using hcap, .inr ⟨b, off, rfl, ?_, fun i hi j hj => ?_⟩⟩
    · rcases Nat.lt_or_ge b W.heap.size with h' | h'
      · exact h'
      · simp [World.cell?, Array.getElem?_eq_none h'] at hc
    · have := h i (by simpa using hi) j hj
      rw [add_plain] at this
      simpa [Nat.add_assoc] using this

theorem open_rowI {H : Type} {enc : TypeId × Value → H} {W : World} {fuel : Nat} {v : Value} {x : DataW H × List MemPlace}
    (h : DataW.trod enc Try.prog W 0 (fun _ => true) true fuel 25 [v] = some x) :
    ∃ xs : List Int, RowI W W.heap.size v xs ∧ xs.length ≤ 9223372036854775807 ∧ ∀ z ∈ xs, (Lit.int .i64 z).wf = true := by
  rcases Deep.open_slice Try.underlying25 h with ⟨h0, _⟩ | ⟨ad, len, cap, m, n, D, Pl, hcs, hb, hl, hm, hmm, _, hx⟩
  · simp at h0
    subst h0
    exact ⟨[], ⟨none, 0, rfl, Nat.le_refl _, .inl rfl⟩, by simp, by simp⟩
  · simp at hcs
    subst hcs
    simp at hmm
    subst hmm
    have each : ∀ i, i < len → ∃ q : Int, W.cell? (ad.add (i * 1 + 0)) = some (.int .i64 q) ∧ (Lit.int .i64 q).wf = true := by
      intro i hi
      obtain ⟨cs', h1, h2⟩ := hx i (by omega)
      rw [Try.cellsInt] at h1
      obtain ⟨_, hlen, hcell⟩ := World.cells?_some h1
      match cs', hlen with
      | [v0], _ =>
        obtain ⟨z0, e0, _, w0⟩ := DataW.trod_int Try.underlying3 h2
        simp at e0
        subst e0
        have c0 := hcell 0 (by omega)
        rw [Deep.add_add] at c0
        exact ⟨z0, by simpa using c0, w0⟩
    obtain ⟨f, hf⟩ := @Deep.choose_lt Int ⟨0⟩ _ _ each
    refine ⟨(List.range len).map f, rowR_of f hl (by omega) inC_len (fun i hi j hj => ?_), ?_, ?_⟩
    · obtain rfl : j = 0 := by omega
      exact (hf i hi).1
    · simp
      unfold maxLen at hm
      omega
    · intro s hs
      obtain ⟨i, hi, rfl⟩ := List.mem_map.mp hs
      exact (hf i (by simpa using hi)).2

end Go.Proofs.Ytabejilnpblogaa

namespace Go.Proofs.Ytabejilnpblogaa
open Go.RowKit

def pmC (p : Pm) : List Value := [.string p.name, .int .i64 p.ty]
def pmZ : Pm := ⟨ByteArray.empty, 0⟩

theorem len_pm {γ : Type} {xs : List γ} (h : xs.length = 2) : ∃ x0 x1, xs = [x0, x1] := by
  match xs, h with
  | [x0, x1], _ => exact ⟨_, _, rfl⟩

end Go.Proofs.Ytabejilnpblogaa

namespace Go.Proofs.Ytabejilnpblogaa
open Go.RowKit

def fcC (p : Fc × Value) : List Value := [.string p.1.name, p.2, .int .i64 p.1.res, .int .i64 p.1.body, .int .i64 p.1.ret]
def fcZ : Fc × Value := (⟨ByteArray.empty, [], 0, 0, 0⟩, .slice none 0 0)

theorem len_fc {γ : Type} {xs : List γ} (h : xs.length = 5) : ∃ x0 x1 x2 x3 x4, xs = [x0, x1, x2, x3, x4] := by
  match xs, h with
  | [x0, x1, x2, x3, x4], _ => exact ⟨_, _, _, _, _, rfl⟩

end Go.Proofs.Ytabejilnpblogaa

namespace Go.Proofs.Ytabejilnpblogaa
open Go.RowKit

end Go.Proofs.Ytabejilnpblogaa

namespace Go.Proofs.Ytabejilnpblogaa
open Go.RowKit

def ndZ : Nd × Value := (⟨0, 0, ByteArray.empty, []⟩, .slice none 0 0)

theorem len_nd {γ : Type} {xs : List γ} (h : xs.length = 4) : ∃ x0 x1 x2 x3, xs = [x0, x1, x2, x3] := by
  match xs, h with
  | [x0, x1, x2, x3], _ => exact ⟨_, _, _, _, rfl⟩

end Go.Proofs.Ytabejilnpblogaa

namespace Go.Proofs.Ytabejilnpblogaa
open Go.RowKit

theorem le_szPg_nodes (p : Pg) : szRow szNd p.nodes ≤ szPg p := Nat.le_add_right _ _
theorem le_szPg_fns (p : Pg) : szRow szFc p.fns ≤ szPg p := Nat.le_add_left _ _

end Go.Proofs.Ytabejilnpblogaa

namespace Go.Proofs.Ytabejilnpblogaa
open Go.RowKit

end Go.Proofs.Ytabejilnpblogaa
