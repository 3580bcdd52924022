/-
  Rows of numbers, and rows of nodes: what is read of them, and what a call owns.
  What the laws do with rows of nodes that are read: held against each other, measured.
  What the laws' helpers answer of rows of numbers.
  Rows that came in, opened: where their cells lie, and that their numbers fit.
  What the laws' helpers answer of rows of Param: held against each other, measured, copied, marked. Written by mkrow.py.
  What the laws' helpers answer of rows of Fn: held against each other, measured, copied, marked. Written by mkrow.py.
  FnAt, in the model and in the program: what it answers at every program and every name.
  What the laws' helpers answer of rows of Node: held against each other, measured, copied, marked. Written by mkrow.py.
  What the laws' helpers answer of programs: held against each other, measured, copied.
  A program that came in, opened.
-/
import Derived.Test.YtbanmldmdoedkaaGreatDoorKa
import Derived.Test.YtbanmldmdoedkaaGreatDoorPa
import Derived.Test.YtbanmldmdoedkaaGreatDoorNa
import Derived.Handy
import Derived.BigQuiet
import Derived.Deep.QuietTactic
import Derived.Deep.RegionHeld3
import Derived.Deep.Slices
import Derived.ChangeSame
namespace Go.Proofs.YtbanmldmdoedkaaGreatDoor
open Go.RowKit

def inC (x : Int) : List Value := [.int .i64 x]
theorem inC_len (x : Int) : (inC x).length = 1 := rfl
/-- A row of numbers below block B. -/
def RowI (w : World) (B : Nat) (v : Value) (xs : List Int) : Prop := RowR inC 1 w B v xs
theorem RowI.keep {w w' : World} {B : Nat} {v : Value} {xs : List Int} (h : RowI w B v xs) (hb : Below B w w') : RowI w' B v xs := RowR.keep h hb
theorem RowI.up {w : World} {B B' : Nat} {v : Value} {xs : List Int} (h : RowI w B v xs) (hB : B ≤ B') : RowI w B' v xs := RowR.up h hB
theorem RowI.len {w : World} {B : Nat} {v : Value} {xs : List Int} (h : RowI w B v xs) : ∃ a cap, v = .slice a xs.length cap := RowR.len h
theorem RowI.at {w : World} {B : Nat} {a : Option Addr} {n cap : Nat} {xs : List Int} (h : RowI w B (.slice a n cap) xs) (i : Nat) (hi : i < xs.length) : ∃ b off, a = some ⟨b, off, none⟩ ∧ b < B ∧ w.cell? ⟨b, off + i, none⟩ = some (.int .i64 xs[i]) := by
  obtain ⟨b, off, ha, hb, hc⟩ := RowR.at h i hi
  have := hc 0 (by omega)
  simp only [Nat.mul_one, Nat.add_zero] at this
  exact ⟨b, off, ha, hb, this⟩
theorem RowI.cap {w : World} {B : Nat} {a : Option Addr} {n cap : Nat} {xs : List Int} (h : RowI w B (.slice a n cap) xs) : xs.length = n ∧ n ≤ cap := RowR.cap h
/-- A row of numbers that the call owns. -/
def OwnsI (w : World) (B : Nat) (v : Value) (xs : List Int) : Prop := OwnsR inC 1 w B 3 v xs
theorem OwnsI.row {w : World} {B : Nat} {v : Value} {xs : List Int} (h : OwnsI w B v xs) : RowI w w.heap.size v xs := OwnsR.read inC_len h (fun g hg => (OwnsR.lt h g hg).2)

theorem fps_one (v : Value) : fps [v] = fpOf v := by simp [fps]

def ndC (p : Nd × Value) : List Value := [.int .i64 p.1.kind, .int .i64 p.1.num, .string p.1.name, p.2]
/-- Rows of nodes. -/
def NdR : RowTy (Nd × Value) Nd where
  enc := ndC
  k := 4
  T := 87
  sub := fun w B p => OwnsI w B p.2 p.1.kids
  rsub := fun w B p => RowI w B p.2 p.1.kids
  vals := fun p => [p.2]
  log := Prod.fst
  len := fun _ => rfl
  sub_same := fun h hs => OwnsR.same h (fun g hg => hs g (by rw [fps_one]; exact hg))
  sub_base := fun h hs => OwnsR.base h (fun g hg => hs g (by rw [fps_one]; exact hg))
  sub_lt := fun h g hg => OwnsR.lt h g (by rw [fps_one] at hg; exact hg)
  sub_read := fun h hs => OwnsR.read inC_len h (fun g hg => hs g (by rw [fps_one]; exact hg))
  rsub_keep := fun h hb => h.keep hb
  rsub_up := fun h hB => h.up hB

/-- A row of nodes below block B, their kids too. -/
def RowNd (w : World) (B : Nat) (v : Value) (ns : List Nd) : Prop := NdR.Row w B v ns
theorem RowNd.keep {w w' : World} {B : Nat} {v : Value} {ns : List Nd} (h : RowNd w B v ns) (hb : Below B w w') : RowNd w' B v ns := RowTy.Row.keep h hb
theorem RowNd.up {w : World} {B B' : Nat} {v : Value} {ns : List Nd} (h : RowNd w B v ns) (hB : B ≤ B') : RowNd w B' v ns := RowTy.Row.up h hB
theorem RowNd.len {w : World} {B : Nat} {v : Value} {ns : List Nd} (h : RowNd w B v ns) : ∃ a cap, v = .slice a ns.length cap := RowTy.Row.len h
/-- One node of the row: its cells, and where its kids' cells lie. -/
theorem RowNd.at {w : World} {B : Nat} {a : Option Addr} {n cap : Nat} {ns : List Nd} (h : RowNd w B (.slice a n cap) ns) (i : Nat) (hi : i < ns.length) :
    ∃ b off ka kc, a = some ⟨b, off, none⟩ ∧ b < B ∧ w.cell? ⟨b, off + i * 4, none⟩ = some (.int .i64 ns[i].kind) ∧ w.cell? ⟨b, off + i * 4 + 1, none⟩ = some (.int .i64 ns[i].num) ∧ w.cell? ⟨b, off + i * 4 + 2, none⟩ = some (.string ns[i].name) ∧
      w.cell? ⟨b, off + i * 4 + 3, none⟩ = some (.slice ka ns[i].kids.length kc) ∧ RowI w B (.slice ka ns[i].kids.length kc) ns[i].kids := by
  obtain ⟨b, off, p, ha, hb, hp, hk, hc⟩ := RowTy.Row.at h i hi
  obtain ⟨q, kv⟩ := p
  obtain rfl : q = ns[i] := hp
  have hk' : RowI w B kv ns[i].kids := hk
  obtain ⟨ka, kc, rfl⟩ := hk'.len
  exact ⟨b, off, ka, kc, ha, hb, hc 0 (by decide), hc 1 (by decide), hc 2 (by decide), hc 3 (by decide), hk'⟩

end Go.Proofs.YtbanmldmdoedkaaGreatDoor

namespace Go.Proofs.YtbanmldmdoedkaaGreatDoor
open Go.RowKit

theorem below_drawn {B : Nat} {a w : World} (h : Below B a w) (n : Nat) : Below B a (w.drewN n) := h.trans ⟨rfl, rfl, rfl, Nat.le_refl _, fun _ _ => rfl⟩

set_option maxHeartbeats 800000 in
theorem eqIntS_same (B : Nat) (va vb : Value) (xs : List Int) (w : World) (hB : B ≤ w.heap.size) (ha : RowI w B va xs) (hb : RowI w B vb xs) (hl : xs.length ≤ 1048576) :
    Calls Tryz.prog 152 #[va, vb] w fun e w' => e = .returned (.bool true) ∧ Below w.heap.size w w' := by
  obtain ⟨a, ca, rfl⟩ := ha.len
  obtain ⟨b, cb, rfl⟩ := hb.len
  obtain ⟨N, HN⟩ : ∃ N, Hid (xs.length = N) := ⟨_, (rfl : xs.length = xs.length)⟩
  have H : Hid (RowI w B (.slice a N ca) xs ∧ RowI w B (.slice b N cb) xs) := by rw [← HN.out]; exact ⟨ha, hb⟩
  rw [HN.out] at hl ⊢
  clear ha hb
  go_enter Tryz.func152, Tryz.ntmps152
  go_wp2
  go_loopw [5] (fun i wr => ∃ k : Nat, k ≤ N ∧ i = .int .i64 (k : Int) ∧ Below w.heap.size w wr) (fun i _ => N - (intOf i).toNat)
  case atStart => exact ⟨0, Nat.zero_le _, rfl, Below.refl _ _⟩
  case round =>
    obtain ⟨k, hk, rfl, hbw⟩ := hrel
    by_cases hlt : k < N
    · have hk1 : (k : Int) < (N : Int) := by omega
      have hk0 : (0 : Int) ≤ (k : Int) := by omega
      have hkl : k < xs.length := by have := HN.out; omega
      obtain ⟨ba, oa, rfl, hba, c0⟩ := H.out.1.at k hkl
      obtain ⟨bb, ob, rfl, hbb, e0⟩ := H.out.2.at k hkl
      obtain ⟨q, hq⟩ : ∃ q, Hid (xs[k] = q) := ⟨_, (rfl : xs[k] = xs[k])⟩
      have d0 := (hbw.cell (p := ⟨ba, oa + k, none⟩) (by show ba < _; omega)).trans c0
      have f0 := (hbw.cell (p := ⟨bb, ob + k, none⟩) (by show bb < _; omega)).trans e0
      rw [hq.out] at d0 f0
      clear c0 e0
      go_wp2_with fail
      go_quiet (fail)
      go_wp2
      go_roundw
      case rel => exact ⟨k + 1, by omega, by go_num, below_drawn hbw _⟩
      case measure => simp [intOf]; omega
    · go_wp2
      go_ret
      exact ⟨rfl, hbw⟩

end Go.Proofs.YtbanmldmdoedkaaGreatDoor

namespace Go.Proofs.YtbanmldmdoedkaaGreatDoor
open Go.RowKit

theorem szIntS_sum (B : Nat) (v : Value) (xs : List Int) (left : Int) (w : World) (_hB : B ≤ w.heap.size) (hv : RowI w B v xs) (hok : xs.length ≤ 9223372036854775807) (h0 : 0 ≤ left) (h1 : left ≤ 1048576) :
    Calls Tryz.prog 146 #[v, .int .i64 left] w fun e w' => (∃ r : Int, e = .returned (.int .i64 r) ∧ (r = -1 ∨ (0 ≤ r ∧ r + (xs.length : Int) = left))) ∧ Below w.heap.size w w' := by
  obtain ⟨a, cap, rfl⟩ := hv.len
  obtain ⟨n, HN⟩ : ∃ N, Hid (xs.length = N) := ⟨_, (rfl : xs.length = xs.length)⟩
  rw [HN.out] at hok ⊢
  clear hv
  by_cases h : left - (n : Int) < 0
  · go_enter Tryz.func146, Tryz.ntmps146
    go_wp2
    go_ret
    exact ⟨⟨_, rfl, .inl rfl⟩, Below.refl _ _⟩
  · go_enter Tryz.func146, Tryz.ntmps146
    go_wp2
    go_ret
    exact ⟨⟨_, rfl, .inr ⟨by omega, by omega⟩⟩, Below.refl _ _⟩

theorem Tryz.infoInt : (Tryz.prog.info? 3).map (fun i => (i.zero, i.size, i.bytes)) = some (some (.int .i64 0), 1, 8) := by kernel_rfl

theorem zero_ints (m : Nat) : (madeCells (Value.int .i64 0).cells (m * 1)).toList = (List.replicate m (0 : Int)).flatMap inC := by
  apply List.ext_getElem?
  intro i
  have hl : ((List.replicate m (0 : Int)).flatMap inC).length = m * 1 := by rw [flat_len inC_len, List.length_replicate]
  have hl2 : (madeCells (Value.int .i64 0).cells (m * 1)).toList.length = m * 1 := by rw [Array.length_toList, size_madeCells]
  by_cases hi : i < m * 1
  · have h1 : i < (List.replicate m (0 : Int)).length := by rw [List.length_replicate]; omega
    have h2 := flat_at inC_len (List.replicate m (0 : Int)) i 0 h1 (by omega)
    rw [Nat.mul_one, Nat.add_zero] at h2
    rw [h2, List.getElem?_eq_getElem (by omega)]
    simp [madeCells, inC, Value.cells, Nat.mod_one]
  · rw [List.getElem?_eq_none (by omega), List.getElem?_eq_none (by omega)]

theorem take_set {α : Type} (xs : List α) (z : α) (N k : Nat) (hN : xs.length = N) (hk : k < N) (x : α) (hx : xs[k]'(by omega) = x) :
    (xs.take k ++ List.replicate (N - k) z).set k x = xs.take (k + 1) ++ List.replicate (N - (k + 1)) z := by
  have hl1 : (xs.take k).length = k := by simp; omega
  rw [List.set_append_right _ _ (by omega), hl1, Nat.sub_self, show N - k = (N - (k + 1)) + 1 by omega, List.replicate_succ, List.set_cons_zero, List.take_succ_eq_append_getElem (by omega), hx, List.append_assoc]
  rfl

set_option maxHeartbeats 800000 in
theorem toIntS_any (B : Nat) (v : Value) (xs : List Int) (w : World) (hB : B ≤ w.heap.size) (hv : RowI w B v xs) (hlen : xs.length ≤ 1048576) :
    Calls Tryz.prog 148 #[v] w fun e w' => ∃ g cap, e = .returned (.slice (some ⟨g, 0, none⟩) xs.length cap) ∧ OwnsI w' w.heap.size (.slice (some ⟨g, 0, none⟩) xs.length cap) xs ∧ Below w.heap.size w w' := by
  obtain ⟨a, cap, rfl⟩ := hv.len
  obtain ⟨N, HN⟩ : ∃ N, Hid (xs.length = N) := ⟨_, (rfl : xs.length = xs.length)⟩
  have H : Hid (RowI w B (.slice a N cap) xs) := by rw [← HN.out]; exact hv
  rw [HN.out] at hlen ⊢
  clear hv
  obtain ⟨i0, hi, hz0, hz1, hz2⟩ := info_parts Tryz.infoInt
  go_enter Tryz.func148, Tryz.ntmps148
  go_wp2_with (at_make; refine wpList_make_full _ rfl _ _ 85 rfl w.heap.size 3 i0 _ 1 Tryz.underlying85 hi hz0 hz1 _ _ _ _ N rfl rfl (by omega) (by omega) (by rw [hz2]; omega) (by unfold maxLen; omega) (Nat.le_refl _) ?_; intro w0 hown0 hg0)
  clear hi hz0 hz1 hz2
  go_loopw [4] (fun i wr => ∃ k : Nat, k ≤ N ∧ i = .int .i64 (k : Int) ∧ Hid (OwnsI wr w.heap.size (.slice (some ⟨w.heap.size, 0, none⟩) N N) (xs.take k ++ List.replicate (N - k) 0)) ∧ Below w.heap.size w wr) (fun i _ => N - (intOf i).toNat)
  case atStart =>
    refine ⟨0, Nat.zero_le _, rfl, ?_, (Below.refl _ _).grown hg0 (Nat.le_refl _) (fun k hk => by cases hk)⟩
    show OwnsI _ _ _ _
    unfold OwnsI OwnsR
    rw [List.take_zero, List.nil_append, Nat.sub_zero, List.length_replicate, ← zero_ints]
    exact hown0
  case round =>
    obtain ⟨k, hk, rfl, HO, hbw⟩ := hrel
    clear hown0 hg0
    by_cases hlt : k < N
    · have hk1 : (k : Int) < (N : Int) := by omega
      have hk0 : (0 : Int) ≤ (k : Int) := by omega
      have hkl : k < xs.length := by have := HN.out; omega
      obtain ⟨ba, oa, rfl, hba, c0⟩ := H.out.at k hkl
      obtain ⟨q, hq⟩ : ∃ q, Hid (xs[k] = q) := ⟨_, (rfl : xs[k] = xs[k])⟩
      have d0 := (hbw.cell (p := ⟨ba, oa + k, none⟩) (by show ba < _; omega)).trans c0
      rw [hq.out] at d0
      clear c0
      have hxl : N = (xs.take k ++ List.replicate (N - k) (0 : Int)).length := by have := HN.out; simp; omega
      obtain ⟨z, b0⟩ : ∃ z, wr.cell? ⟨w.heap.size, k, none⟩ = some (.int .i64 z) := ⟨_, by have := OwnsR.cell inC_len HO.out hxl k 0 (by omega) (by omega); simp only [Nat.mul_one, Nat.add_zero, inC, List.getElem?_cons_zero] at this; exact this⟩
      have f0 := OwnsR.free HO.out hxl k
      have S2 : Hid _ := OwnsR.stored inC_len HO.out hxl k 0 (by omega) (by omega) q (.int .i64 q) (by simp [inC])
      rw [take_set xs 0 N k HN.out hlt q hq.out] at S2
      simp only [Nat.mul_one, Nat.add_zero] at S2
      have HB2 : Hid (Below w.heap.size w (wr.setCell ⟨w.heap.size, k, none⟩ (.int .i64 q))) := hbw.setCell (p := ⟨w.heap.size, k, none⟩) (Nat.le_refl _) _
      clear HO hxl
      go_wp2
      go_roundw
      case rel => exact ⟨k + 1, by omega, by go_num, S2, HB2.out⟩
      case measure => simp [intOf]; omega
    · have hkN : Hid (k = N) := (by omega : k = N)
      have HF : Hid (OwnsI wr w.heap.size (.slice (some ⟨w.heap.size, 0, none⟩) N N) xs) := by
        have := HO.out
        rw [hkN.out, Nat.sub_self, List.replicate_zero, List.append_nil, List.take_of_length_le (by rw [HN.out]; exact Nat.le_refl _)] at this
        exact this
      go_wp2
      go_ret
      exact ⟨_, _, rfl, HF.out, hbw⟩

end Go.Proofs.YtbanmldmdoedkaaGreatDoor

namespace Go.Proofs.YtbanmldmdoedkaaGreatDoor
open Go.RowKit

theorem Tryz.cellsInt : Tryz.prog.cellsOf 3 = 1 := by kernel_rfl
theorem Tryz.cellsStr : Tryz.prog.cellsOf 9 = 1 := by kernel_rfl
theorem Tryz.cellsInts : Tryz.prog.cellsOf 85 = 1 := by kernel_rfl
theorem add_plain (b off i : Nat) : (⟨b, off, none⟩ : Addr).add i = ⟨b, off + i, none⟩ := by unfold Addr.add; split <;> simp_all

/-- A row out of its cells. -/
theorem rowR_of {α : Type} {enc : α → List Value} {k : Nat} {W : World} {ad : Addr} {len cap : Nat} (f : Nat → α) (hcap : len ≤ cap) (hk : 0 < k) (henc : ∀ x, (enc x).length = k) (h : ∀ i, i < len → ∀ j, j < k → W.cell? (ad.add (i * k + j)) = (enc (f i))[j]?) :
    RowR enc k W W.heap.size (.slice (some ad) len cap) ((List.range len).map f) := by
  by_cases h0 : len = 0
  · subst h0
    exact ⟨some ad, cap, rfl, by simp, .inl rfl⟩
  · obtain ⟨b, off, spot⟩ := ad
    have hc := h 0 (by omega) 0 hk
    obtain ⟨u, hu⟩ : ∃ u, (enc (f 0))[0]? = some u := ⟨_, List.getElem?_eq_getElem (by rw [henc]; exact hk)⟩
    rw [hu, Nat.zero_mul] at hc
    have hspot : spot = none := by simpa [Addr.add] using World.cell?_spot hc
    subst hspot
    rw [add_plain] at hc
    refine ⟨some ⟨b, off, none⟩, cap, by simp, by simpa using hcap, .inr ⟨b, off, rfl, ?_, fun i hi j hj => ?_⟩⟩
    · rcases Nat.lt_or_ge b W.heap.size with h' | h'
      · exact h'
      · simp [World.cell?, Array.getElem?_eq_none h'] at hc
    · have := h i (by simpa using hi) j hj
      rw [add_plain] at this
      simpa [Nat.add_assoc] using this

theorem open_rowI {H : Type} {enc : TypeId × Value → H} {W : World} {fuel : Nat} {v : Value} {x : DataW H × List MemPlace}
    (h : DataW.trod enc Tryz.prog W 0 (fun _ => true) true fuel 85 [v] = some x) :
    ∃ xs : List Int, RowI W W.heap.size v xs ∧ xs.length ≤ 9223372036854775807 ∧ ∀ z ∈ xs, (Lit.int .i64 z).wf = true := by
  rcases Deep.open_slice Tryz.underlying85 h with ⟨h0, _⟩ | ⟨ad, len, cap, m, n, D, Pl, hcs, hb, hl, hm, hmm, _, hx⟩
  · simp at h0
    subst h0
    exact ⟨[], ⟨none, 0, rfl, Nat.le_refl _, .inl rfl⟩, by simp, by simp⟩
  · simp at hcs
    subst hcs
    simp at hmm
    subst hmm
    have each : ∀ i, i < len → ∃ q : Int, W.cell? (ad.add (i * 1 + 0)) = some (.int .i64 q) ∧ (Lit.int .i64 q).wf = true := by
      intro i hi
      obtain ⟨cs', h1, h2⟩ := hx i (by omega)
      rw [Tryz.cellsInt] at h1
      obtain ⟨_, hlen, hcell⟩ := World.cells?_some h1
      match cs', hlen with
      | [v0], _ =>
        obtain ⟨z0, e0, _, w0⟩ := DataW.trod_int Tryz.underlying3 h2
        simp at e0
        subst e0
        have c0 := hcell 0 (by omega)
        rw [Deep.add_add] at c0
        exact ⟨z0, by simpa using c0, w0⟩
    obtain ⟨f, hf⟩ := @Deep.choose_lt Int ⟨0⟩ _ _ each
    refine ⟨(List.range len).map f, rowR_of f hl (by omega) inC_len (fun i hi j hj => ?_), ?_, ?_⟩
    · obtain rfl : j = 0 := by omega
      exact (hf i hi).1
    · simp
      unfold maxLen at hm
      omega
    · intro s hs
      obtain ⟨i, hi, rfl⟩ := List.mem_map.mp hs
      exact (hf i (by simpa using hi)).2

end Go.Proofs.YtbanmldmdoedkaaGreatDoor

namespace Go.Proofs.YtbanmldmdoedkaaGreatDoor
open Go.RowKit

def pmC (p : Pm) : List Value := [.string p.name, .int .i64 p.ty]
/-- Rows of Param. -/
def PmR : RowTy (Pm) Pm where
  enc := pmC
  k := 2
  T := 57
  sub := fun w B p => True
  rsub := fun w B p => True
  vals := fun p => []
  log := id
  len := fun _ => rfl
  sub_same := fun _ _ => trivial
  sub_base := fun _ _ => trivial
  sub_lt := fun _ g hg => by simp [fps] at hg
  sub_read := fun _ _ => trivial
  rsub_keep := fun _ _ => trivial
  rsub_up := fun _ _ => trivial
theorem PmR.at {w : World} {B : Nat} {a : Option Addr} {n cap : Nat} {xs : List Pm} (h : PmR.Row w B (.slice a n cap) xs) (i : Nat) (hi : i < xs.length) :
    ∃ b off, a = some ⟨b, off, none⟩ ∧ b < B ∧ w.cell? ⟨b, off + i * 2, none⟩ = some (.string xs[i].name) ∧ w.cell? ⟨b, off + i * 2 + 1, none⟩ = some (.int .i64 xs[i].ty) := by
  obtain ⟨b, off, p, ha, hb, hp, hk, hc⟩ := RowTy.Row.at h i hi
  obtain rfl : p = xs[i] := hp
  exact ⟨b, off, ha, hb, hc 0 (by decide), hc 1 (by decide)⟩

set_option maxRecDepth 100000 in
set_option maxHeartbeats 1600000 in
theorem eqParam_same (B : Nat) (q : Pm)  (w : World) (_hB : B ≤ w.heap.size)  (_hl : szPm q ≤ 1048576) :
    Calls Tryz.prog 179 #[.agg #[.string q.name, .int .i64 q.ty], .agg #[.string q.name, .int .i64 q.ty]] w fun e w' => e = .returned (.bool true) ∧ Below w.heap.size w w' := by
  obtain ⟨name, ty⟩ := q
  simp only
  go_enter Tryz.func179, Tryz.ntmps179
  go_wp2
  go_ret
  exact ⟨rfl, by go_grown⟩

set_option maxRecDepth 100000 in
set_option maxHeartbeats 1600000 in
theorem eqParamS_same (B : Nat) (va vb : Value) (xs : List Pm) (w : World) (hB : B ≤ w.heap.size) (ha : PmR.Row w B va xs) (hb : PmR.Row w B vb xs) (hl : szRow szPm xs ≤ 1048576) :
    Calls Tryz.prog 153 #[va, vb] w fun e w' => e = .returned (.bool true) ∧ Below w.heap.size w w' := by
  obtain ⟨a, ca, rfl⟩ := ha.len
  obtain ⟨b, cb, rfl⟩ := hb.len
  obtain ⟨N, HN⟩ : ∃ N, Hid (xs.length = N) := ⟨_, (rfl : xs.length = xs.length)⟩
  have H : Hid (PmR.Row w B (.slice a N ca) xs ∧ PmR.Row w B (.slice b N cb) xs) := by rw [← HN.out]; exact ⟨ha, hb⟩
  have HS : Hid (szRow szPm xs ≤ 1048576) := hl
  have hN : N ≤ 1048576 := by have := len_szRow szPm xs; have := HN.out; omega
  rw [HN.out]
  clear ha hb hl
  go_enter Tryz.func153, Tryz.ntmps153
  go_wp2
  go_loopw [5] (fun i wr => ∃ k : Nat, k ≤ N ∧ i = .int .i64 (k : Int) ∧ Below w.heap.size w wr) (fun i _ => N - (intOf i).toNat)
  case atStart => exact ⟨0, Nat.zero_le _, rfl, Below.refl _ _⟩
  case round =>
    obtain ⟨k, hk, rfl, hbw⟩ := hrel
    by_cases hlt : k < N
    · have hk1 : (k : Int) < (N : Int) := by omega
      have hk0 : (0 : Int) ≤ (k : Int) := by omega
      have hkl : k < xs.length := by have := HN.out; omega
      obtain ⟨ba, oa, rfl, hba, c0, c1⟩ := PmR.at H.out.1 k hkl
      obtain ⟨bb, ob, rfl, hbb, e0, e1⟩ := PmR.at H.out.2 k hkl
      have hq : szPm xs[k] ≤ 1048576 := Nat.le_trans (mem_szRow szPm (List.getElem_mem hkl)) HS.out
      obtain ⟨q, hqe⟩ : ∃ q, Hid (xs[k] = q) := ⟨_, (rfl : xs[k] = xs[k])⟩
      rw [hqe.out] at c0 c1 e0 e1 hq
      have cQ : Hid (∀ W, Below w.heap.size w W → Calls Tryz.prog 179 #[.agg #[.string q.name, .int .i64 q.ty], .agg #[.string q.name, .int .i64 q.ty]] W fun e w' => e = .returned (.bool true) ∧ Below W.heap.size W w') := fun W hW =>
        eqParam_same B q W (Nat.le_trans hB hW.size) hq
      obtain ⟨name, ty⟩ := q
      simp only at c0 c1 e0 e1 cQ
      clear hq
      have hba1 : ba < wr.heap.size := by have := hbw.size; omega
      have hbb1 : bb < wr.heap.size := by have := hbw.size; omega
      have d0 := (hbw.cell (p := ⟨ba, oa + k * 2, none⟩) (by show ba < _; omega)).trans c0
      have f0 := (hbw.cell (p := ⟨bb, ob + k * 2, none⟩) (by show bb < _; omega)).trans e0
      have d1 := (hbw.cell (p := ⟨ba, oa + k * 2 + 1, none⟩) (by show ba < _; omega)).trans c1
      have f1 := (hbw.cell (p := ⟨bb, ob + k * 2 + 1, none⟩) (by show bb < _; omega)).trans e1
      clear c0 c1 e0 e1
      go_wp2_with fail
      go_region_held3 (fun w' => (w'.cell? ⟨ba, oa + k * 2, none⟩ = some (.string name) ∧ w'.cell? ⟨ba, oa + k * 2 + 1, none⟩ = some (.int .i64 ty)) ∧ (w'.cell? ⟨bb, ob + k * 2, none⟩ = some (.string name) ∧ w'.cell? ⟨bb, ob + k * 2 + 1, none⟩ = some (.int .i64 ty))) (first | exact ⟨⟨d0, d1⟩, ⟨f0, f1⟩⟩ | exact ⟨⟨(hb1.cell (p := ⟨ba, oa + k * 2, none⟩) hba1).trans d0, (hb1.cell (p := ⟨ba, oa + k * 2 + 1, none⟩) hba1).trans d1⟩, ⟨(hb1.cell (p := ⟨bb, ob + k * 2, none⟩) hbb1).trans f0, (hb1.cell (p := ⟨bb, ob + k * 2 + 1, none⟩) hbb1).trans f1⟩⟩) ((go_at_call 179; refine Calls.mono (cQ.out _ hbw.drew) ?_; rintro e w1 ⟨rfl, hb1⟩))
      all_goals
        go_wp2
        go_roundw
        case rel => exact ⟨k + 1, by omega, by go_num, hbw.drew.trans (hb1.mono hbw.size)⟩
        case measure => simp [intOf]; omega
    · go_wp2
      go_ret
      exact ⟨rfl, hbw⟩

set_option maxRecDepth 100000 in
set_option maxHeartbeats 1600000 in
theorem szParam_sum (B : Nat) (q : Pm)  (left : Int) (w : World) (_hB : B ≤ w.heap.size)  (hok : okPm q) (h0 : 0 ≤ left) (h1 : left ≤ 1048576) :
    Calls Tryz.prog 175 #[.agg #[.string q.name, .int .i64 q.ty], .int .i64 left] w fun e w' => (∃ r : Int, e = .returned (.int .i64 r) ∧ (r = -1 ∨ (0 ≤ r ∧ r + (szPm q : Int) = left))) ∧ Below w.heap.size w w' := by
  have hs_name : q.name.size ≤ 9223372036854775807 := okPm_name hok
  have HZ : Hid ((szPm q : Int) = (q.name.size : Int)) := by
    show (_ : Int) = _
    unfold szPm
    push_cast
    rfl
  obtain ⟨name, ty⟩ := q
  simp only at *
  rw [HZ.out]
  clear HZ hok
  go_enter Tryz.func175, Tryz.ntmps175
  by_cases h_name : left - (name.size : Int) < 0
  · go_wp2
    go_ret
    exact ⟨⟨_, rfl, .inl rfl⟩, by go_grown⟩
  go_wp2
  go_ret
  exact ⟨⟨_, rfl, .inr ⟨by omega, by omega⟩⟩, by go_grown⟩

set_option maxRecDepth 100000 in
set_option maxHeartbeats 1600000 in
theorem szParamS_sum (B : Nat) (v : Value) (xs : List Pm) (left : Int) (w : World) (hB : B ≤ w.heap.size) (hv : PmR.Row w B v xs) (hok : okRow okPm xs) (h0 : 0 ≤ left) (h1 : left ≤ 1048576) :
    Calls Tryz.prog 147 #[v, .int .i64 left] w fun e w' => (∃ r : Int, e = .returned (.int .i64 r) ∧ (r = -1 ∨ (0 ≤ r ∧ r + (szRow szPm xs : Int) = left))) ∧ Below w.heap.size w w' := by
  obtain ⟨a, cap, rfl⟩ := hv.len
  obtain ⟨N, HN⟩ : ∃ N, Hid (xs.length = N) := ⟨_, (rfl : xs.length = xs.length)⟩
  have H : Hid (PmR.Row w B (.slice a N cap) xs) := by rw [← HN.out]; exact hv
  have HS : Hid (okRow okPm xs) := hok
  have hlen : N ≤ 9223372036854775807 := by rw [← HN.out]; exact hok.1
  rw [HN.out]
  clear hv hok
  by_cases hneg : left - (N : Int) < 0
  · go_enter Tryz.func147, Tryz.ntmps147
    go_wp2
    go_ret
    exact ⟨⟨_, rfl, .inl rfl⟩, Below.refl _ _⟩
  go_enter Tryz.func147, Tryz.ntmps147
  go_wp2
  go_loopw [1, 5] (fun l i wr => ∃ (k : Nat) (r : Int), k ≤ N ∧ i = .int .i64 (k : Int) ∧ l = .int .i64 r ∧ 0 ≤ r ∧ r ≤ 1048576 ∧ Hid (r + (N : Int) + (szTo szPm xs k : Int) = left) ∧ Below w.heap.size w wr) (fun _ i _ => N - (intOf i).toNat)
  case atStart => exact ⟨0, left - (N : Int), Nat.zero_le _, rfl, rfl, by omega, by omega, by show (_ : Int) = _; rw [szTo_zero]; omega, Below.refl _ _⟩
  case round =>
    obtain ⟨k, r, hk, rfl, rfl, hr0, hr1, HR, hbw⟩ := hrel
    by_cases hlt : k < N
    · have hk1 : (k : Int) < (N : Int) := by omega
      have hk0 : (0 : Int) ≤ (k : Int) := by omega
      have hkl : k < xs.length := by have := HN.out; omega
      obtain ⟨b, off, rfl, hb, c0, c1⟩ := PmR.at H.out k hkl
      have hq := HS.out.2 xs[k] (List.getElem_mem hkl)
      have HQ : Hid (szTo szPm xs (k + 1) = szTo szPm xs k + szPm xs[k]) := szTo_succ szPm xs k hkl
      obtain ⟨q, hqe⟩ : ∃ q, Hid (xs[k] = q) := ⟨_, (rfl : xs[k] = xs[k])⟩
      rw [hqe.out] at c0 c1 hq HQ
      have d0 := (hbw.cell (p := ⟨b, off + k * 2, none⟩) (by show b < _; omega)).trans c0
      have d1 := (hbw.cell (p := ⟨b, off + k * 2 + 1, none⟩) (by show b < _; omega)).trans c1
      have cQ : Hid (∀ W, Below w.heap.size w W → Calls Tryz.prog 175 #[.agg #[.string q.name, .int .i64 q.ty], .int .i64 r] W fun e w' => (∃ r' : Int, e = .returned (.int .i64 r') ∧ (r' = -1 ∨ (0 ≤ r' ∧ r' + (szPm q : Int) = r))) ∧ Below W.heap.size W w') := fun W hW => szParam_sum B q r W (Nat.le_trans hB hW.size) hq hr0 hr1
      clear c0 c1 hq
      go_wp2_with fail
      go_at_call 175
      refine Calls.mono (cQ.out _ hbw) ?_
      rintro e w1 ⟨⟨r', rfl, hr'⟩, hb1⟩
      clear cQ
      rcases hr' with rfl | ⟨hr0', hr2⟩
      · go_wp2
        go_ret
        exact ⟨⟨_, rfl, .inl rfl⟩, hbw.trans (hb1.mono hbw.size)⟩
      · have HR1 : Hid (r' + (N : Int) + (szTo szPm xs (k + 1) : Int) = left) := by
          show (_ : Int) = _
          rw [HQ.out]
          have := HR.out
          push_cast
          omega
        have hr3 : r' ≤ 1048576 := by omega
        have hrn : ¬ r' < 0 := by omega
        clear hr2
        go_wp2
        go_roundw
        case rel => exact ⟨k + 1, r', by omega, by go_num, rfl, hr0', hr3, HR1, hbw.trans (hb1.mono hbw.size)⟩
        case measure => simp [intOf]; omega
    · have hkN : Hid (k = N) := (by omega : k = N)
      have HF : Hid (r + (szRow szPm xs : Int) = left) := by
        show (_ : Int) = _
        have := HR.out
        rw [hkN.out, ← HN.out, szTo_all] at this
        unfold szRow
        push_cast
        omega
      go_wp2
      go_ret
      exact ⟨⟨_, rfl, .inr ⟨hr0, HF.out⟩⟩, hbw⟩

theorem toParam_any (q : Pm) (w : World) :
    Calls Tryz.prog 176 #[.agg #[.string q.name, .int .i64 q.ty]] w fun e w' => e = .returned (.agg #[.string q.name, .int .i64 q.ty]) ∧ Below w.heap.size w w' := by
  obtain ⟨name, ty⟩ := q
  simp only
  go_enter Tryz.func176, Tryz.ntmps176
  go_wp2
  go_returns
  exact ⟨rfl, by go_grown⟩

theorem PmR_phys {w : World} {B H : Nat} {v : Value} {xs : List Pm} (h : PmR.Own w B H v xs) : PmR.Phys w B v xs := by
  obtain ⟨ps, hl, hp, _⟩ := h
  obtain rfl : ps = xs := by rw [← hl]; exact (List.map_id ps).symm
  exact hp

theorem Tryz.infoPm : (Tryz.prog.info? 57).map (fun i => (i.zero, i.size, i.bytes)) = some (some (.agg #[.string ByteArray.empty, .int .i64 0]), 2, 24) := by kernel_rfl
def pmZ : Pm := ⟨ByteArray.empty, 0⟩

set_option maxRecDepth 100000 in
set_option maxHeartbeats 1600000 in
theorem toParamS_any (B : Nat) (v : Value) (xs : List Pm) (w : World) (hB : B ≤ w.heap.size) (hv : PmR.Row w B v xs) (hl : szRow szPm xs ≤ 1048576) :
    Calls Tryz.prog 149 #[v] w fun e w' => ∃ g cap, e = .returned (.slice (some ⟨g, 0, none⟩) xs.length cap) ∧ PmR.Own w' w.heap.size w'.heap.size (.slice (some ⟨g, 0, none⟩) xs.length cap) xs ∧ Below w.heap.size w w' := by
  obtain ⟨a, cap, rfl⟩ := hv.len
  obtain ⟨N, HN⟩ : ∃ N, Hid (xs.length = N) := ⟨_, (rfl : xs.length = xs.length)⟩
  have H : Hid (PmR.Row w B (.slice a N cap) xs) := by rw [← HN.out]; exact hv
  have HS : Hid (szRow szPm xs ≤ 1048576) := hl
  have hN : N ≤ 1048576 := by have := len_szRow szPm xs; have := HN.out; omega
  rw [HN.out]
  clear hv hl
  obtain ⟨i0, hi, hz0, hz1, hz2⟩ := info_parts Tryz.infoPm
  go_enter Tryz.func149, Tryz.ntmps149
  go_wp2_with (at_make; refine wpList_make_full _ rfl _ _ 53 rfl w.heap.size 57 i0 _ 2 Tryz.underlying53 hi hz0 hz1 _ _ _ _ N rfl rfl (by omega) (by omega) (by rw [hz2]; omega) (by unfold maxLen; omega) (Nat.le_refl _) ?_; intro w0 hown0 hg0)
  clear hi hz0 hz1 hz2
  go_loopw [4] (fun i wr => ∃ k : Nat, k ≤ N ∧ i = .int .i64 (k : Int) ∧ Hid (Made PmR w wr N pmZ xs k) ∧ Below w.heap.size w wr) (fun i _ => N - (intOf i).toNat)
  case atStart =>
    refine ⟨0, Nat.zero_le _, rfl, ?_, (Below.refl _ _).grown hg0 (Nat.le_refl _) (fun k hk => by cases hk)⟩
    show Made _ _ _ _ _ _ _
    refine Made.start xs ?_
    unfold OwnsR
    have hzc := zero_cells (enc := PmR.enc) (k := PmR.k) pmZ (.agg #[.string ByteArray.empty, .int .i64 0]) PmR.len (by decide) (by simp [Value.cells, PmR, pmC, pmZ]) N
    rw [List.length_replicate, ← hzc]
    exact hown0
  case round =>
    obtain ⟨k, hk, rfl, HM, hbw⟩ := hrel
    clear hown0 hg0
    by_cases hlt : k < N
    · have hk1 : (k : Int) < (N : Int) := by omega
      have hk0 : (0 : Int) ≤ (k : Int) := by omega
      have hkl : k < xs.length := by have := HN.out; omega
      obtain ⟨ba, oa, rfl, hba, c0, c1⟩ := PmR.at H.out k hkl
      have hq : szPm xs[k] ≤ 1048576 := Nat.le_trans (mem_szRow szPm (List.getElem_mem hkl)) HS.out
      obtain ⟨q, hqe⟩ : ∃ q, Hid (xs[k] = q) := ⟨_, (rfl : xs[k] = xs[k])⟩
      rw [hqe.out] at c0 c1 hq
      have d0 := (hbw.cell (p := ⟨ba, oa + k * 2, none⟩) (by show ba < _; omega)).trans c0
      have d1 := (hbw.cell (p := ⟨ba, oa + k * 2 + 1, none⟩) (by show ba < _; omega)).trans c1
      have cT : Hid (∀ W, Below w.heap.size w W → Calls Tryz.prog 176 #[.agg #[.string q.name, .int .i64 q.ty]] W fun e w' => e = .returned (.agg #[.string q.name, .int .i64 q.ty]) ∧ Below W.heap.size W w') := fun W _ => toParam_any q W
      clear c0 c1 hq
      go_wp2_with fail
      go_at_call 176
      refine Calls.mono (cT.out _ hbw) ?_
      rintro e w1 ⟨rfl, hb1⟩
      have S : Hid (Made PmR w (putCells w1 w.heap.size (k * 2) (pmC q)) N pmZ xs (k + 1)) := Made.step HM.out HN.out hlt hb1 q hqe.out.symm trivial (by simp [PmR, fps])
      obtain ⟨hc, hf⟩ := Made.cells HM.out HN.out hlt hb1
      have z0 : w1.cell? ⟨w.heap.size, k * 2, none⟩ = some (.string ByteArray.empty) := hc 0 (by decide)
      have f0 : w1.frozen? ⟨w.heap.size, k * 2, none⟩ = false := hf _
      have z1 : w1.cell? ⟨w.heap.size, k * 2 + 1, none⟩ = some (.int .i64 0) := hc 1 (by decide)
      have f1 : w1.frozen? ⟨w.heap.size, k * 2 + 1, none⟩ = false := hf _
      have HB1 : Hid (Below w.heap.size w w1) := hbw.trans (hb1.mono hbw.size)
      clear hc hf hb1 HM cT d0 d1
      go_wp2
      go_roundw
      case rel => exact ⟨k + 1, by omega, by go_num, S, putCells_below (Nat.le_refl _) (pmC q) _ _ _ HB1.out⟩
      case measure => simp [intOf]; omega
    · have hkN : Hid (k = N) := (by omega : k = N)
      have HF : Hid (PmR.Own wr w.heap.size wr.heap.size (.slice (some ⟨w.heap.size, 0, none⟩) N N) xs) := by
        have := HM.out
        rw [hkN.out] at this
        exact this.done HN.out
      go_wp2
      go_ret
      exact ⟨_, _, rfl, HF.out, hbw⟩

theorem Tryz.structPm : ∃ f0 f1 : Field, Tryz.prog.underlying 199 = some (.struct #[f0, f1]) ∧ f0.offset = 0 ∧ f1.offset = 1 ∧ f0.type = 9 ∧ f1.type = 3 := ⟨_, _, Tryz.underlying199, rfl, rfl, rfl, rfl⟩
theorem Tryz.cellsPm : Tryz.prog.cellsOf 199 = 2 := by kernel_rfl
theorem Tryz.cellsPms : Tryz.prog.cellsOf 133 = 1 := by kernel_rfl
theorem len_pm {γ : Type} {xs : List γ} (h : xs.length = 2) : ∃ x0 x1, xs = [x0, x1] := by
  match xs, h with
  | [x0, x1], _ => exact ⟨_, _, rfl⟩

/-- One Param out of its cells. -/
theorem open_pm1 {H : Type} {enc : TypeId × Value → H} {W : World} {fuel : Nat} {cs : List Value} {x : DataW H × List MemPlace}
    (h : DataW.trod enc Tryz.prog W 0 (fun _ => true) true fuel 199 cs = some x) :
    ∃ q : Pm, cs = pmC q ∧ PmR.rsub W W.heap.size q ∧ okPm (PmR.log q) := by
  obtain ⟨f0, f1, hst, o0, o1, t0, t1⟩ := Tryz.structPm
  obtain ⟨xs, k, _, _, hlen, hxl, hf⟩ := DataW.trod_struct hst h
  rw [Tryz.cellsPm] at hlen
  have hxl' : xs.length = 2 := hxl
  obtain ⟨y0, y1, rfl⟩ := len_pm hxl'
  obtain ⟨v0, v1, rfl⟩ := len_pm hlen
  have g0 := hf 0 f0 rfl
  rw [o0, t0, Tryz.cellsStr] at g0
  have g1 := hf 1 f1 rfl
  rw [o1, t1, Tryz.cellsInt] at g1
  simp at g0 g1
  obtain ⟨z0, e0, _, w0⟩ := DataW.trod_string Tryz.underlying9 g0
  simp at e0
  subst e0
  have w0' : z0.size ≤ 9223372036854775807 := Nat.le_trans w0 (by unfold maxLen; omega)
  obtain ⟨z1, e1, _, w1⟩ := DataW.trod_int Tryz.underlying3 g1
  simp at e1
  subst e1
  exact ⟨⟨z0, z1⟩, rfl, trivial, w0'⟩

theorem open_pms {H : Type} {enc : TypeId × Value → H} {W : World} {fuel : Nat} {v : Value} {x : DataW H × List MemPlace}
    (h : DataW.trod enc Tryz.prog W 0 (fun _ => true) true fuel 133 [v] = some x) :
    ∃ xs : List Pm, PmR.Row W W.heap.size v xs ∧ okRow okPm xs := by
  rcases Deep.open_slice Tryz.underlying133 h with ⟨h0, _⟩ | ⟨ad, len, cap, m, n, D, Pl, hcs, hb, hl, hm, hmm, _, hx⟩
  · simp at h0
    subst h0
    exact ⟨[], PmR.row_nil _ _ _ _, by simp [okRow]⟩
  · simp at hcs
    subst hcs
    simp at hmm
    subst hmm
    have each : ∀ i, i < len → ∃ q : Pm, (∀ j, j < 2 → W.cell? (ad.add (i * 2 + j)) = (pmC q)[j]?) ∧ PmR.rsub W W.heap.size q ∧ okPm (PmR.log q) := by
      intro i hi
      obtain ⟨cs', h1, h2⟩ := hx i (by omega)
      rw [Tryz.cellsPm] at h1
      obtain ⟨_, hlen, hcell⟩ := World.cells?_some h1
      obtain ⟨q, rfl, hs, hk⟩ := open_pm1 h2
      refine ⟨q, fun j hj => ?_, hs, hk⟩
      have c := hcell j hj
      rw [Deep.add_add] at c
      exact c
    obtain ⟨f, hf⟩ := @Deep.choose_lt (Pm) ⟨pmZ⟩ _ _ each
    refine ⟨((List.range len).map f).map PmR.log, ⟨_, rfl, rowR_of f hl (by decide) PmR.len (fun i hi j hj => (hf i hi).1 j hj), ?_⟩, ?_, ?_⟩
    · intro p hp
      obtain ⟨i, hi, rfl⟩ := List.mem_map.mp hp
      exact (hf i (by simpa using hi)).2.1
    · simp
      unfold maxLen at hm
      omega
    · intro x hx
      obtain ⟨p, hp, rfl⟩ := List.mem_map.mp hx
      obtain ⟨i, hi, rfl⟩ := List.mem_map.mp hp
      exact (hf i (by simpa using hi)).2.2

end Go.Proofs.YtbanmldmdoedkaaGreatDoor

namespace Go.Proofs.YtbanmldmdoedkaaGreatDoor
open Go.RowKit

def fcC (p : Fc × Value) : List Value := [.string p.1.name, p.2, .int .i64 p.1.res, .int .i64 p.1.body, .int .i64 p.1.ret]
theorem all_oneFc {v : Value} {ps : List Pm} {g : Nat} (h : g ∈ fps (PmR.all v ps)) : g ∈ fps [v] := by
  simpa [RowTy.all, PmR, flat_nil] using h
theorem one_allFc {v : Value} {ps : List Pm} {g : Nat} (h : g ∈ fps [v]) : g ∈ fps (PmR.all v ps) := by
  simpa [RowTy.all, PmR, flat_nil] using h
/-- Rows of Fn. -/
def FcR : RowTy (Fc × Value) Fc where
  enc := fcC
  k := 5
  T := 55
  sub := fun w B p => PmR.Phys w B p.2 p.1.params
  rsub := fun w B p => PmR.Row w B p.2 p.1.params
  vals := fun p => [p.2]
  log := Prod.fst
  len := fun _ => rfl
  sub_same := fun h hs => h.same (fun g hg => hs g (all_oneFc hg))
  sub_base := fun h hs => h.base (fun g hg => hs g (all_oneFc hg))
  sub_lt := fun h g hg => h.lt g (one_allFc hg)
  sub_read := fun h hs => by have := h.read (fun g hg => hs g (all_oneFc hg)); rwa [show ∀ ps : List Pm, ps.map PmR.log = ps from List.map_id] at this
  rsub_keep := fun h hb => h.keep hb
  rsub_up := fun h hB => h.up hB
theorem FcR.at {w : World} {B : Nat} {a : Option Addr} {n cap : Nat} {xs : List Fc} (h : FcR.Row w B (.slice a n cap) xs) (i : Nat) (hi : i < xs.length) :
    ∃ b off v0, a = some ⟨b, off, none⟩ ∧ b < B ∧ w.cell? ⟨b, off + i * 5, none⟩ = some (.string xs[i].name) ∧ w.cell? ⟨b, off + i * 5 + 1, none⟩ = some (v0) ∧ w.cell? ⟨b, off + i * 5 + 2, none⟩ = some (.int .i64 xs[i].res) ∧ w.cell? ⟨b, off + i * 5 + 3, none⟩ = some (.int .i64 xs[i].body) ∧ w.cell? ⟨b, off + i * 5 + 4, none⟩ = some (.int .i64 xs[i].ret) ∧ PmR.Row w B v0 xs[i].params := by
  obtain ⟨b, off, p, ha, hb, hp, hk, hc⟩ := RowTy.Row.at h i hi
  obtain ⟨q, v0⟩ := p
  obtain rfl : q = xs[i] := hp
  exact ⟨b, off, v0, ha, hb, hc 0 (by decide), hc 1 (by decide), hc 2 (by decide), hc 3 (by decide), hc 4 (by decide), hk⟩

set_option maxRecDepth 100000 in
set_option maxHeartbeats 1600000 in
theorem eqFn_same (B : Nat) (q : Fc) (a0 b0 : Value) (w : World) (hB : B ≤ w.heap.size) (ha0 : PmR.Row w B a0 q.params) (hb0 : PmR.Row w B b0 q.params) (hl : szFc q ≤ 1048576) :
    Calls Tryz.prog 105 #[.agg #[.string q.name, a0, .int .i64 q.res, .int .i64 q.body, .int .i64 q.ret], .agg #[.string q.name, b0, .int .i64 q.res, .int .i64 q.body, .int .i64 q.ret]] w fun e w' => e = .returned (.bool true) ∧ Below w.heap.size w w' := by
  have cE0 : Hid (∀ W, Below w.heap.size w W → Calls Tryz.prog 153 #[a0, b0] W fun e w' => e = .returned (.bool true) ∧ Below W.heap.size W w') := fun W hW =>
    eqParamS_same B _ _ q.params W (Nat.le_trans hB hW.size) (ha0.keep (hW.mono hB)) (hb0.keep (hW.mono hB)) (Nat.le_trans (le_szFc_params q) hl)
  obtain ⟨name, params, res, body, ret⟩ := q
  simp only
  clear hl ha0 hb0
  go_enter Tryz.func105, Tryz.ntmps105
  go_wp2_with fail
  go_at_call 153
  refine Calls.mono (cE0.out _ (by go_grown)) ?_
  rintro e w1 ⟨rfl, hb⟩
  have HB1 : Hid (Below w.heap.size w w1) := by
    have h0 : Below w.heap.size w ((w.alloc (.cells #[.string name, a0, .int .i64 res, .int .i64 body, .int .i64 ret] 55)).alloc (.cells #[.string name, b0, .int .i64 res, .int .i64 body, .int .i64 ret] 55)) := by go_grown
    exact h0.trans (hb.mono h0.size)
  have x1_2 : w1.cell? ⟨w.heap.size, 2, none⟩ = some (.int .i64 res) := (hb.cell (p := ⟨w.heap.size, 2, none⟩) (by show _ < _; first | (simp; done) | (simp; omega))).trans (by simp)
  have y1_2 : w1.cell? ⟨w.heap.size + 1, 2, none⟩ = some (.int .i64 res) := (hb.cell (p := ⟨w.heap.size + 1, 2, none⟩) (by show _ < _; first | (simp; done) | (simp; omega))).trans (by simp)
  have x1_3 : w1.cell? ⟨w.heap.size, 3, none⟩ = some (.int .i64 body) := (hb.cell (p := ⟨w.heap.size, 3, none⟩) (by show _ < _; first | (simp; done) | (simp; omega))).trans (by simp)
  have y1_3 : w1.cell? ⟨w.heap.size + 1, 3, none⟩ = some (.int .i64 body) := (hb.cell (p := ⟨w.heap.size + 1, 3, none⟩) (by show _ < _; first | (simp; done) | (simp; omega))).trans (by simp)
  have x1_4 : w1.cell? ⟨w.heap.size, 4, none⟩ = some (.int .i64 ret) := (hb.cell (p := ⟨w.heap.size, 4, none⟩) (by show _ < _; first | (simp; done) | (simp; omega))).trans (by simp)
  have y1_4 : w1.cell? ⟨w.heap.size + 1, 4, none⟩ = some (.int .i64 ret) := (hb.cell (p := ⟨w.heap.size + 1, 4, none⟩) (by show _ < _; first | (simp; done) | (simp; omega))).trans (by simp)
  have hs1 : ∀ x, x ≤ w.heap.size + 1 → x < w1.heap.size := fun x hx => by have := hb.size; simp at this; omega
  clear hb cE0
  have HS1 : Hid _ := hs1
  clear hs1
  go_wp2
  go_ret
  exact ⟨rfl, HB1.out⟩

set_option maxRecDepth 100000 in
set_option maxHeartbeats 1600000 in
theorem eqFnS_same (B : Nat) (va vb : Value) (xs : List Fc) (w : World) (hB : B ≤ w.heap.size) (ha : FcR.Row w B va xs) (hb : FcR.Row w B vb xs) (hl : szRow szFc xs ≤ 1048576) :
    Calls Tryz.prog 60 #[va, vb] w fun e w' => e = .returned (.bool true) ∧ Below w.heap.size w w' := by
  obtain ⟨a, ca, rfl⟩ := ha.len
  obtain ⟨b, cb, rfl⟩ := hb.len
  obtain ⟨N, HN⟩ : ∃ N, Hid (xs.length = N) := ⟨_, (rfl : xs.length = xs.length)⟩
  have H : Hid (FcR.Row w B (.slice a N ca) xs ∧ FcR.Row w B (.slice b N cb) xs) := by rw [← HN.out]; exact ⟨ha, hb⟩
  have HS : Hid (szRow szFc xs ≤ 1048576) := hl
  have hN : N ≤ 1048576 := by have := len_szRow szFc xs; have := HN.out; omega
  rw [HN.out]
  clear ha hb hl
  go_enter Tryz.func60, Tryz.ntmps60
  go_wp2
  go_loopw [5] (fun i wr => ∃ k : Nat, k ≤ N ∧ i = .int .i64 (k : Int) ∧ Below w.heap.size w wr) (fun i _ => N - (intOf i).toNat)
  case atStart => exact ⟨0, Nat.zero_le _, rfl, Below.refl _ _⟩
  case round =>
    obtain ⟨k, hk, rfl, hbw⟩ := hrel
    by_cases hlt : k < N
    · have hk1 : (k : Int) < (N : Int) := by omega
      have hk0 : (0 : Int) ≤ (k : Int) := by omega
      have hkl : k < xs.length := by have := HN.out; omega
      obtain ⟨ba, oa, a0, rfl, hba, c0, c1, c2, c3, c4, ra0⟩ := FcR.at H.out.1 k hkl
      obtain ⟨bb, ob, b0, rfl, hbb, e0, e1, e2, e3, e4, rb0⟩ := FcR.at H.out.2 k hkl
      have hq : szFc xs[k] ≤ 1048576 := Nat.le_trans (mem_szRow szFc (List.getElem_mem hkl)) HS.out
      obtain ⟨q, hqe⟩ : ∃ q, Hid (xs[k] = q) := ⟨_, (rfl : xs[k] = xs[k])⟩
      rw [hqe.out] at c0 c2 c3 c4 e0 e2 e3 e4 ra0 rb0 hq
      have cQ : Hid (∀ W, Below w.heap.size w W → Calls Tryz.prog 105 #[.agg #[.string q.name, a0, .int .i64 q.res, .int .i64 q.body, .int .i64 q.ret], .agg #[.string q.name, b0, .int .i64 q.res, .int .i64 q.body, .int .i64 q.ret]] W fun e w' => e = .returned (.bool true) ∧ Below W.heap.size W w') := fun W hW =>
        eqFn_same B q _ _ W (Nat.le_trans hB hW.size) (ra0.keep (hW.mono hB)) (rb0.keep (hW.mono hB)) hq
      obtain ⟨name, params, res, body, ret⟩ := q
      simp only at c0 c2 c3 c4 e0 e2 e3 e4 cQ
      clear hq ra0 rb0
      have hba1 : ba < wr.heap.size := by have := hbw.size; omega
      have hbb1 : bb < wr.heap.size := by have := hbw.size; omega
      have d0 := (hbw.cell (p := ⟨ba, oa + k * 5, none⟩) (by show ba < _; omega)).trans c0
      have f0 := (hbw.cell (p := ⟨bb, ob + k * 5, none⟩) (by show bb < _; omega)).trans e0
      have d1 := (hbw.cell (p := ⟨ba, oa + k * 5 + 1, none⟩) (by show ba < _; omega)).trans c1
      have f1 := (hbw.cell (p := ⟨bb, ob + k * 5 + 1, none⟩) (by show bb < _; omega)).trans e1
      have d2 := (hbw.cell (p := ⟨ba, oa + k * 5 + 2, none⟩) (by show ba < _; omega)).trans c2
      have f2 := (hbw.cell (p := ⟨bb, ob + k * 5 + 2, none⟩) (by show bb < _; omega)).trans e2
      have d3 := (hbw.cell (p := ⟨ba, oa + k * 5 + 3, none⟩) (by show ba < _; omega)).trans c3
      have f3 := (hbw.cell (p := ⟨bb, ob + k * 5 + 3, none⟩) (by show bb < _; omega)).trans e3
      have d4 := (hbw.cell (p := ⟨ba, oa + k * 5 + 4, none⟩) (by show ba < _; omega)).trans c4
      have f4 := (hbw.cell (p := ⟨bb, ob + k * 5 + 4, none⟩) (by show bb < _; omega)).trans e4
      clear c0 c1 c2 c3 c4 e0 e1 e2 e3 e4
      go_wp2_with fail
      go_region_held3 (fun w' => (w'.cell? ⟨ba, oa + k * 5, none⟩ = some (.string name) ∧ w'.cell? ⟨ba, oa + k * 5 + 1, none⟩ = some (a0) ∧ w'.cell? ⟨ba, oa + k * 5 + 2, none⟩ = some (.int .i64 res) ∧ w'.cell? ⟨ba, oa + k * 5 + 3, none⟩ = some (.int .i64 body) ∧ w'.cell? ⟨ba, oa + k * 5 + 4, none⟩ = some (.int .i64 ret)) ∧ (w'.cell? ⟨bb, ob + k * 5, none⟩ = some (.string name) ∧ w'.cell? ⟨bb, ob + k * 5 + 1, none⟩ = some (b0) ∧ w'.cell? ⟨bb, ob + k * 5 + 2, none⟩ = some (.int .i64 res) ∧ w'.cell? ⟨bb, ob + k * 5 + 3, none⟩ = some (.int .i64 body) ∧ w'.cell? ⟨bb, ob + k * 5 + 4, none⟩ = some (.int .i64 ret))) (first | exact ⟨⟨d0, d1, d2, d3, d4⟩, ⟨f0, f1, f2, f3, f4⟩⟩ | exact ⟨⟨(hb1.cell (p := ⟨ba, oa + k * 5, none⟩) hba1).trans d0, (hb1.cell (p := ⟨ba, oa + k * 5 + 1, none⟩) hba1).trans d1, (hb1.cell (p := ⟨ba, oa + k * 5 + 2, none⟩) hba1).trans d2, (hb1.cell (p := ⟨ba, oa + k * 5 + 3, none⟩) hba1).trans d3, (hb1.cell (p := ⟨ba, oa + k * 5 + 4, none⟩) hba1).trans d4⟩, ⟨(hb1.cell (p := ⟨bb, ob + k * 5, none⟩) hbb1).trans f0, (hb1.cell (p := ⟨bb, ob + k * 5 + 1, none⟩) hbb1).trans f1, (hb1.cell (p := ⟨bb, ob + k * 5 + 2, none⟩) hbb1).trans f2, (hb1.cell (p := ⟨bb, ob + k * 5 + 3, none⟩) hbb1).trans f3, (hb1.cell (p := ⟨bb, ob + k * 5 + 4, none⟩) hbb1).trans f4⟩⟩) ((go_at_call 105; refine Calls.mono (cQ.out _ hbw.drew) ?_; rintro e w1 ⟨rfl, hb1⟩))
      all_goals
        go_wp2
        go_roundw
        case rel => exact ⟨k + 1, by omega, by go_num, hbw.drew.trans (hb1.mono hbw.size)⟩
        case measure => simp [intOf]; omega
    · go_wp2
      go_ret
      exact ⟨rfl, hbw⟩

set_option maxRecDepth 100000 in
set_option maxHeartbeats 1600000 in
theorem szFn_sum (B : Nat) (q : Fc) (a0 : Value) (left : Int) (w : World) (hB : B ≤ w.heap.size) (ha0 : PmR.Row w B a0 q.params) (hok : okFc q) (h0 : 0 ≤ left) (h1 : left ≤ 1048576) :
    Calls Tryz.prog 96 #[.agg #[.string q.name, a0, .int .i64 q.res, .int .i64 q.body, .int .i64 q.ret], .int .i64 left] w fun e w' => (∃ r : Int, e = .returned (.int .i64 r) ∧ (r = -1 ∨ (0 ≤ r ∧ r + (szFc q : Int) = left))) ∧ Below w.heap.size w w' := by
  have cS0 : Hid (∀ W l, 0 ≤ l → l ≤ 1048576 → Below w.heap.size w W → Calls Tryz.prog 147 #[a0, .int .i64 l] W fun e w' => (∃ r : Int, e = .returned (.int .i64 r) ∧ (r = -1 ∨ (0 ≤ r ∧ r + (szRow szPm q.params : Int) = l))) ∧ Below W.heap.size W w') := fun W l hl0 hl1 hW =>
    szParamS_sum B _ q.params l W (Nat.le_trans hB hW.size) (ha0.keep (hW.mono hB)) (okFc_params hok) hl0 hl1
  have hs_name : q.name.size ≤ 9223372036854775807 := okFc_name hok
  have HZ : Hid ((szFc q : Int) = (q.name.size : Int) + (szRow szPm q.params : Int)) := by
    show (_ : Int) = _
    unfold szFc
    push_cast
    rfl
  obtain ⟨name, params, res, body, ret⟩ := q
  simp only at *
  obtain ⟨z0, hz0⟩ : ∃ z : Nat, Hid (szRow szPm params = z) := ⟨_, (rfl : szRow szPm params = szRow szPm params)⟩
  rw [hz0.out] at cS0 HZ
  rw [HZ.out]
  clear HZ hok ha0 hz0
  go_enter Tryz.func96, Tryz.ntmps96
  by_cases h_name : left - (name.size : Int) < 0
  · go_wp2
    go_ret
    exact ⟨⟨_, rfl, .inl rfl⟩, by go_grown⟩
  go_wp2_with fail
  go_at_call 147
  refine Calls.mono (cS0.out _ (left - (name.size : Int)) (by omega) (by omega) (by go_grown)) ?_
  rintro e w1 ⟨⟨r1, rfl, hr1⟩, hb⟩
  have HB1 : Hid (Below w.heap.size w w1) := by
    have h0 : Below w.heap.size w (w.alloc (.cells #[.string name, a0, .int .i64 res, .int .i64 body, .int .i64 ret] 135)) := by go_grown
    exact h0.trans (hb.mono h0.size)
  have hs1 : w.heap.size < w1.heap.size := by have := hb.size; simp at this; omega
  clear hb cS0
  rcases hr1 with rfl | ⟨hr1a, hr1b⟩
  · go_wp2
    go_ret
    exact ⟨⟨_, rfl, .inl rfl⟩, HB1.out⟩
  have hr1n : ¬ r1 < 0 := by omega
  go_wp2
  go_ret
  exact ⟨⟨_, rfl, .inr ⟨by omega, by omega⟩⟩, HB1.out⟩

set_option maxRecDepth 100000 in
set_option maxHeartbeats 1600000 in
theorem szFnS_sum (B : Nat) (v : Value) (xs : List Fc) (left : Int) (w : World) (hB : B ≤ w.heap.size) (hv : FcR.Row w B v xs) (hok : okRow okFc xs) (h0 : 0 ≤ left) (h1 : left ≤ 1048576) :
    Calls Tryz.prog 52 #[v, .int .i64 left] w fun e w' => (∃ r : Int, e = .returned (.int .i64 r) ∧ (r = -1 ∨ (0 ≤ r ∧ r + (szRow szFc xs : Int) = left))) ∧ Below w.heap.size w w' := by
  obtain ⟨a, cap, rfl⟩ := hv.len
  obtain ⟨N, HN⟩ : ∃ N, Hid (xs.length = N) := ⟨_, (rfl : xs.length = xs.length)⟩
  have H : Hid (FcR.Row w B (.slice a N cap) xs) := by rw [← HN.out]; exact hv
  have HS : Hid (okRow okFc xs) := hok
  have hlen : N ≤ 9223372036854775807 := by rw [← HN.out]; exact hok.1
  rw [HN.out]
  clear hv hok
  by_cases hneg : left - (N : Int) < 0
  · go_enter Tryz.func52, Tryz.ntmps52
    go_wp2
    go_ret
    exact ⟨⟨_, rfl, .inl rfl⟩, Below.refl _ _⟩
  go_enter Tryz.func52, Tryz.ntmps52
  go_wp2
  go_loopw [1, 5] (fun l i wr => ∃ (k : Nat) (r : Int), k ≤ N ∧ i = .int .i64 (k : Int) ∧ l = .int .i64 r ∧ 0 ≤ r ∧ r ≤ 1048576 ∧ Hid (r + (N : Int) + (szTo szFc xs k : Int) = left) ∧ Below w.heap.size w wr) (fun _ i _ => N - (intOf i).toNat)
  case atStart => exact ⟨0, left - (N : Int), Nat.zero_le _, rfl, rfl, by omega, by omega, by show (_ : Int) = _; rw [szTo_zero]; omega, Below.refl _ _⟩
  case round =>
    obtain ⟨k, r, hk, rfl, rfl, hr0, hr1, HR, hbw⟩ := hrel
    by_cases hlt : k < N
    · have hk1 : (k : Int) < (N : Int) := by omega
      have hk0 : (0 : Int) ≤ (k : Int) := by omega
      have hkl : k < xs.length := by have := HN.out; omega
      obtain ⟨b, off, a0, rfl, hb, c0, c1, c2, c3, c4, ra0⟩ := FcR.at H.out k hkl
      have hq := HS.out.2 xs[k] (List.getElem_mem hkl)
      have HQ : Hid (szTo szFc xs (k + 1) = szTo szFc xs k + szFc xs[k]) := szTo_succ szFc xs k hkl
      obtain ⟨q, hqe⟩ : ∃ q, Hid (xs[k] = q) := ⟨_, (rfl : xs[k] = xs[k])⟩
      rw [hqe.out] at c0 c2 c3 c4 ra0 hq HQ
      have d0 := (hbw.cell (p := ⟨b, off + k * 5, none⟩) (by show b < _; omega)).trans c0
      have d1 := (hbw.cell (p := ⟨b, off + k * 5 + 1, none⟩) (by show b < _; omega)).trans c1
      have d2 := (hbw.cell (p := ⟨b, off + k * 5 + 2, none⟩) (by show b < _; omega)).trans c2
      have d3 := (hbw.cell (p := ⟨b, off + k * 5 + 3, none⟩) (by show b < _; omega)).trans c3
      have d4 := (hbw.cell (p := ⟨b, off + k * 5 + 4, none⟩) (by show b < _; omega)).trans c4
      have cQ : Hid (∀ W, Below w.heap.size w W → Calls Tryz.prog 96 #[.agg #[.string q.name, a0, .int .i64 q.res, .int .i64 q.body, .int .i64 q.ret], .int .i64 r] W fun e w' => (∃ r' : Int, e = .returned (.int .i64 r') ∧ (r' = -1 ∨ (0 ≤ r' ∧ r' + (szFc q : Int) = r))) ∧ Below W.heap.size W w') := fun W hW => szFn_sum B q _ r W (Nat.le_trans hB hW.size) (ra0.keep (hW.mono hB)) hq hr0 hr1
      clear c0 c1 c2 c3 c4 hq ra0
      go_wp2_with fail
      go_at_call 96
      refine Calls.mono (cQ.out _ hbw) ?_
      rintro e w1 ⟨⟨r', rfl, hr'⟩, hb1⟩
      clear cQ
      rcases hr' with rfl | ⟨hr0', hr2⟩
      · go_wp2
        go_ret
        exact ⟨⟨_, rfl, .inl rfl⟩, hbw.trans (hb1.mono hbw.size)⟩
      · have HR1 : Hid (r' + (N : Int) + (szTo szFc xs (k + 1) : Int) = left) := by
          show (_ : Int) = _
          rw [HQ.out]
          have := HR.out
          push_cast
          omega
        have hr3 : r' ≤ 1048576 := by omega
        have hrn : ¬ r' < 0 := by omega
        clear hr2
        go_wp2
        go_roundw
        case rel => exact ⟨k + 1, r', by omega, by go_num, rfl, hr0', hr3, HR1, hbw.trans (hb1.mono hbw.size)⟩
        case measure => simp [intOf]; omega
    · have hkN : Hid (k = N) := (by omega : k = N)
      have HF : Hid (r + (szRow szFc xs : Int) = left) := by
        show (_ : Int) = _
        have := HR.out
        rw [hkN.out, ← HN.out, szTo_all] at this
        unfold szRow
        push_cast
        omega
      go_wp2
      go_ret
      exact ⟨⟨_, rfl, .inr ⟨hr0, HF.out⟩⟩, hbw⟩

set_option maxRecDepth 100000 in
set_option maxHeartbeats 1600000 in
theorem toFn_any (B : Nat) (q : Fc) (a0 : Value) (w : World) (hB : B ≤ w.heap.size) (ha0 : PmR.Row w B a0 q.params) (hl : szFc q ≤ 1048576) :
    Calls Tryz.prog 98 #[.agg #[.string q.name, a0, .int .i64 q.res, .int .i64 q.body, .int .i64 q.ret]] w fun e w' => ∃ g cap, e = .returned (.agg #[.string q.name, (.slice (some ⟨g, 0, none⟩) q.params.length cap), .int .i64 q.res, .int .i64 q.body, .int .i64 q.ret]) ∧ PmR.Phys w' w.heap.size (.slice (some ⟨g, 0, none⟩) q.params.length cap) q.params ∧ Below w.heap.size w w' := by
  have cT : Hid (∀ W, Below w.heap.size w W → Calls Tryz.prog 149 #[a0] W fun e w' => ∃ g cap, e = .returned (.slice (some ⟨g, 0, none⟩) q.params.length cap) ∧ PmR.Phys w' W.heap.size (.slice (some ⟨g, 0, none⟩) q.params.length cap) q.params ∧ Below W.heap.size W w') := fun W hW => by
    refine (toParamS_any B _ q.params W (Nat.le_trans hB hW.size) (ha0.keep (hW.mono hB)) (Nat.le_trans (le_szFc_params q) hl)).mono ?_
    rintro e w1 ⟨g, cap, rfl, ho, hb⟩
    exact ⟨g, cap, rfl, PmR_phys ho, hb⟩
  obtain ⟨name, params, res, body, ret⟩ := q
  simp only at cT ⊢
  obtain ⟨K, HK⟩ : ∃ K, Hid (params.length = K) := ⟨_, (rfl : params.length = params.length)⟩
  rw [HK.out] at cT ⊢
  clear ha0 hl
  go_enter Tryz.func98, Tryz.ntmps98
  go_wp2_with fail
  go_at_call 149
  refine Calls.mono (cT.out _ (by go_grown)) ?_
  rintro e w1 ⟨g, cap, rfl, ho, hb1⟩
  have hO := (hb1.block (w.heap.size + 2) (by first | (simp; done) | (simp; omega))).trans (third_new w _ _ _)
  have hR := (hb1.block (w.heap.size + 1) (by first | (simp; done) | (simp; omega))).trans (second_new w _ _ _)
  have hA := (hb1.block w.heap.size (by first | (simp; done) | (simp; omega))).trans (first_new w _ _ _)
  have o0 := cell_at hO 0
  have r0 := cell_at hR 0
  have f0 := free_at hR 0
  have o1 := cell_at hO 1
  have r1 := cell_at hR 1
  have f1 := free_at hR 1
  have o2 := cell_at hO 2
  have r2 := cell_at hR 2
  have f2 := free_at hR 2
  have o3 := cell_at hO 3
  have r3 := cell_at hR 3
  have f3 := free_at hR 3
  have o4 := cell_at hO 4
  have r4 := cell_at hR 4
  have f4 := free_at hR 4
  have p1 := free_at hO 1
  have p2 := free_at hO 2
  have p3 := free_at hO 3
  have p4 := free_at hO 4
  have a2' := cell_at hA 2
  have a3' := cell_at hA 3
  have a4' := cell_at hA 4
  have HE : Hid (∀ u1 u2 u3 u4 v0 v1 v2 v3 v4, (((((((((w1.setCell ⟨w.heap.size + 2, 1, none⟩ u1).setCell ⟨w.heap.size + 2, 2, none⟩ u2).setCell ⟨w.heap.size + 2, 3, none⟩ u3).setCell ⟨w.heap.size + 2, 4, none⟩ u4).setCell ⟨w.heap.size + 1, 0, none⟩ v0).setCell ⟨w.heap.size + 1, 1, none⟩ v1).setCell ⟨w.heap.size + 1, 2, none⟩ v2).setCell ⟨w.heap.size + 1, 3, none⟩ v3).setCell ⟨w.heap.size + 1, 4, none⟩ v4).heap[w.heap.size + 1]? = some (.cells #[v0, v1, v2, v3, v4] 55 (0, 0))) := fun u1 u2 u3 u4 v0 v1 v2 v3 v4 => by
    simp [World.setCell, Array.getElem?_modify, hR]
  have HN : Hid (∀ u1 u2 u3 u4 v0 v1 v2 v3 v4 x, x ≠ w.heap.size + 1 → x ≠ w.heap.size + 2 → (((((((((w1.setCell ⟨w.heap.size + 2, 1, none⟩ u1).setCell ⟨w.heap.size + 2, 2, none⟩ u2).setCell ⟨w.heap.size + 2, 3, none⟩ u3).setCell ⟨w.heap.size + 2, 4, none⟩ u4).setCell ⟨w.heap.size + 1, 0, none⟩ v0).setCell ⟨w.heap.size + 1, 1, none⟩ v1).setCell ⟨w.heap.size + 1, 2, none⟩ v2).setCell ⟨w.heap.size + 1, 3, none⟩ v3).setCell ⟨w.heap.size + 1, 4, none⟩ v4).heap[x]? = w1.heap[x]?) := fun u1 u2 u3 u4 v0 v1 v2 v3 v4 x h1 h2 => by
    simp only [kept_set h1, kept_set h2]
  simp at o0 r0 o1 r1 o2 r2 o3 r3 o4 r4 a2' a3' a4'
  have HO : Hid (PmR.Phys w1 w.heap.size (.slice (some ⟨g, 0, none⟩) K cap) params ∧ w.heap.size + 3 ≤ g) := by
    have h3 := ho.1.lt g (by simp [fpOf, Value.ownBlock])
    simp at h3
    refine ⟨ho.base (fun b hb => ?_), by omega⟩
    have : b = g := by simpa [RowTy.all, fps, fpOf, Value.ownBlock, flat_nil, PmR] using hb
    omega
  have HB : Hid (Below w.heap.size w w1) := by
    refine Below.trans ?_ (hb1.mono ?_)
    · go_grown
    · simp; omega
  clear hb1 hO hR hA ho cT
  go_wp2
  have e0 := fun u1 u2 u3 u4 v0 v1 v2 v3 v4 => cell_at (HE.out u1 u2 u3 u4 v0 v1 v2 v3 v4) 0
  have e1 := fun u1 u2 u3 u4 v0 v1 v2 v3 v4 => cell_at (HE.out u1 u2 u3 u4 v0 v1 v2 v3 v4) 1
  have e2 := fun u1 u2 u3 u4 v0 v1 v2 v3 v4 => cell_at (HE.out u1 u2 u3 u4 v0 v1 v2 v3 v4) 2
  have e3 := fun u1 u2 u3 u4 v0 v1 v2 v3 v4 => cell_at (HE.out u1 u2 u3 u4 v0 v1 v2 v3 v4) 3
  have e4 := fun u1 u2 u3 u4 v0 v1 v2 v3 v4 => cell_at (HE.out u1 u2 u3 u4 v0 v1 v2 v3 v4) 4
  simp at e0 e1 e2 e3 e4
  refine bodyPost_ret (by simp [results, Tryz.results98, go_sem, e0, e1, e2, e3, e4]; try rfl) rfl ?_
  refine ⟨g, cap, rfl, HO.out.1.same (fun b hb => ?_), ?_⟩
  · have hg := HO.out.2
    have : b = g := by simpa [RowTy.all, fps, fpOf, Value.ownBlock, flat_nil, PmR] using hb
    subst this
    exact HN.out _ _ _ _ _ _ _ _ _ b (by omega) (by omega)
  · have h1 := HB.out
    go_grown

theorem Tryz.infoFc : (Tryz.prog.info? 55).map (fun i => (i.zero, i.size, i.bytes)) = some (some (.agg #[.string ByteArray.empty, .slice none 0 0, .int .i64 0, .int .i64 0, .int .i64 0]), 5, 64) := by kernel_rfl
def fcZ : Fc × Value := (⟨ByteArray.empty, [], 0, 0, 0⟩, .slice none 0 0)

set_option maxRecDepth 100000 in
set_option maxHeartbeats 1600000 in
theorem toFnS_any (B : Nat) (v : Value) (xs : List Fc) (w : World) (hB : B ≤ w.heap.size) (hv : FcR.Row w B v xs) (hl : szRow szFc xs ≤ 1048576) :
    Calls Tryz.prog 55 #[v] w fun e w' => ∃ g cap, e = .returned (.slice (some ⟨g, 0, none⟩) xs.length cap) ∧ FcR.Own w' w.heap.size w'.heap.size (.slice (some ⟨g, 0, none⟩) xs.length cap) xs ∧ Below w.heap.size w w' := by
  obtain ⟨a, cap, rfl⟩ := hv.len
  obtain ⟨N, HN⟩ : ∃ N, Hid (xs.length = N) := ⟨_, (rfl : xs.length = xs.length)⟩
  have H : Hid (FcR.Row w B (.slice a N cap) xs) := by rw [← HN.out]; exact hv
  have HS : Hid (szRow szFc xs ≤ 1048576) := hl
  have hN : N ≤ 1048576 := by have := len_szRow szFc xs; have := HN.out; omega
  rw [HN.out]
  clear hv hl
  obtain ⟨i0, hi, hz0, hz1, hz2⟩ := info_parts Tryz.infoFc
  go_enter Tryz.func55, Tryz.ntmps55
  go_wp2_with (at_make; refine wpList_make_full _ rfl _ _ 25 rfl w.heap.size 55 i0 _ 5 Tryz.underlying25 hi hz0 hz1 _ _ _ _ N rfl rfl (by omega) (by omega) (by rw [hz2]; omega) (by unfold maxLen; omega) (Nat.le_refl _) ?_; intro w0 hown0 hg0)
  clear hi hz0 hz1 hz2
  go_loopw [4] (fun i wr => ∃ k : Nat, k ≤ N ∧ i = .int .i64 (k : Int) ∧ Hid (Made FcR w wr N fcZ xs k) ∧ Below w.heap.size w wr) (fun i _ => N - (intOf i).toNat)
  case atStart =>
    refine ⟨0, Nat.zero_le _, rfl, ?_, (Below.refl _ _).grown hg0 (Nat.le_refl _) (fun k hk => by cases hk)⟩
    show Made _ _ _ _ _ _ _
    refine Made.start xs ?_
    unfold OwnsR
    have hzc := zero_cells (enc := FcR.enc) (k := FcR.k) fcZ (.agg #[.string ByteArray.empty, .slice none 0 0, .int .i64 0, .int .i64 0, .int .i64 0]) FcR.len (by decide) (by simp [Value.cells, FcR, fcC, fcZ]) N
    rw [List.length_replicate, ← hzc]
    exact hown0
  case round =>
    obtain ⟨k, hk, rfl, HM, hbw⟩ := hrel
    clear hown0 hg0
    by_cases hlt : k < N
    · have hk1 : (k : Int) < (N : Int) := by omega
      have hk0 : (0 : Int) ≤ (k : Int) := by omega
      have hkl : k < xs.length := by have := HN.out; omega
      obtain ⟨ba, oa, a0, rfl, hba, c0, c1, c2, c3, c4, ra0⟩ := FcR.at H.out k hkl
      have hq : szFc xs[k] ≤ 1048576 := Nat.le_trans (mem_szRow szFc (List.getElem_mem hkl)) HS.out
      obtain ⟨q, hqe⟩ : ∃ q, Hid (xs[k] = q) := ⟨_, (rfl : xs[k] = xs[k])⟩
      rw [hqe.out] at c0 c2 c3 c4 ra0 hq
      have d0 := (hbw.cell (p := ⟨ba, oa + k * 5, none⟩) (by show ba < _; omega)).trans c0
      have d1 := (hbw.cell (p := ⟨ba, oa + k * 5 + 1, none⟩) (by show ba < _; omega)).trans c1
      have d2 := (hbw.cell (p := ⟨ba, oa + k * 5 + 2, none⟩) (by show ba < _; omega)).trans c2
      have d3 := (hbw.cell (p := ⟨ba, oa + k * 5 + 3, none⟩) (by show ba < _; omega)).trans c3
      have d4 := (hbw.cell (p := ⟨ba, oa + k * 5 + 4, none⟩) (by show ba < _; omega)).trans c4
      have cT : Hid (∀ W, Below w.heap.size w W → Calls Tryz.prog 98 #[.agg #[.string q.name, a0, .int .i64 q.res, .int .i64 q.body, .int .i64 q.ret]] W fun e w' => ∃ g cap, e = .returned (.agg #[.string q.name, (.slice (some ⟨g, 0, none⟩) q.params.length cap), .int .i64 q.res, .int .i64 q.body, .int .i64 q.ret]) ∧ PmR.Phys w' W.heap.size (.slice (some ⟨g, 0, none⟩) q.params.length cap) q.params ∧ Below W.heap.size W w') := fun W hW =>
        toFn_any B q _ W (Nat.le_trans hB hW.size) (ra0.keep (hW.mono hB)) hq
      clear c0 c1 c2 c3 c4 hq ra0
      go_wp2_with fail
      go_at_call 98
      refine Calls.mono (cT.out _ hbw) ?_
      rintro e w1 ⟨g, gc, rfl, ho, hb1⟩
      have S : Hid (Made FcR w (putCells w1 w.heap.size (k * 5) (fcC (q, .slice (some ⟨g, 0, none⟩) q.params.length gc))) N fcZ xs (k + 1)) := Made.step HM.out HN.out hlt hb1 (q, .slice (some ⟨g, 0, none⟩) q.params.length gc) hqe.out.symm ho (by simp [FcR, fps, fpOf, Value.ownBlock])
      clear ho
      obtain ⟨hc, hf⟩ := Made.cells HM.out HN.out hlt hb1
      have z0 : w1.cell? ⟨w.heap.size, k * 5, none⟩ = some (.string ByteArray.empty) := hc 0 (by decide)
      have f0 : w1.frozen? ⟨w.heap.size, k * 5, none⟩ = false := hf _
      have z1 : w1.cell? ⟨w.heap.size, k * 5 + 1, none⟩ = some (.slice none 0 0) := hc 1 (by decide)
      have f1 : w1.frozen? ⟨w.heap.size, k * 5 + 1, none⟩ = false := hf _
      have z2 : w1.cell? ⟨w.heap.size, k * 5 + 2, none⟩ = some (.int .i64 0) := hc 2 (by decide)
      have f2 : w1.frozen? ⟨w.heap.size, k * 5 + 2, none⟩ = false := hf _
      have z3 : w1.cell? ⟨w.heap.size, k * 5 + 3, none⟩ = some (.int .i64 0) := hc 3 (by decide)
      have f3 : w1.frozen? ⟨w.heap.size, k * 5 + 3, none⟩ = false := hf _
      have z4 : w1.cell? ⟨w.heap.size, k * 5 + 4, none⟩ = some (.int .i64 0) := hc 4 (by decide)
      have f4 : w1.frozen? ⟨w.heap.size, k * 5 + 4, none⟩ = false := hf _
      have HB1 : Hid (Below w.heap.size w w1) := hbw.trans (hb1.mono hbw.size)
      clear hc hf hb1 HM cT d0 d1 d2 d3 d4
      go_wp2
      go_roundw
      case rel => exact ⟨k + 1, by omega, by go_num, S, putCells_below (Nat.le_refl _) (fcC (q, _)) _ _ _ HB1.out⟩
      case measure => simp [intOf]; omega
    · have hkN : Hid (k = N) := (by omega : k = N)
      have HF : Hid (FcR.Own wr w.heap.size wr.heap.size (.slice (some ⟨w.heap.size, 0, none⟩) N N) xs) := by
        have := HM.out
        rw [hkN.out] at this
        exact this.done HN.out
      go_wp2
      go_ret
      exact ⟨_, _, rfl, HF.out, hbw⟩

theorem Tryz.structFc : ∃ f0 f1 f2 f3 f4 : Field, Tryz.prog.underlying 135 = some (.struct #[f0, f1, f2, f3, f4]) ∧ f0.offset = 0 ∧ f1.offset = 1 ∧ f2.offset = 2 ∧ f3.offset = 3 ∧ f4.offset = 4 ∧ f0.type = 9 ∧ f1.type = 133 ∧ f2.type = 3 ∧ f3.type = 3 ∧ f4.type = 3 := ⟨_, _, _, _, _, Tryz.underlying135, rfl, rfl, rfl, rfl, rfl, rfl, rfl, rfl, rfl, rfl⟩
theorem Tryz.cellsFc : Tryz.prog.cellsOf 135 = 5 := by kernel_rfl
theorem Tryz.cellsFcs : Tryz.prog.cellsOf 41 = 1 := by kernel_rfl
theorem len_fc {γ : Type} {xs : List γ} (h : xs.length = 5) : ∃ x0 x1 x2 x3 x4, xs = [x0, x1, x2, x3, x4] := by
  match xs, h with
  | [x0, x1, x2, x3, x4], _ => exact ⟨_, _, _, _, _, rfl⟩

/-- One Fn out of its cells. -/
theorem open_fc1 {H : Type} {enc : TypeId × Value → H} {W : World} {fuel : Nat} {cs : List Value} {x : DataW H × List MemPlace}
    (h : DataW.trod enc Tryz.prog W 0 (fun _ => true) true fuel 135 cs = some x) :
    ∃ q : Fc × Value, cs = fcC q ∧ FcR.rsub W W.heap.size q ∧ okFc (FcR.log q) := by
  obtain ⟨f0, f1, f2, f3, f4, hst, o0, o1, o2, o3, o4, t0, t1, t2, t3, t4⟩ := Tryz.structFc
  obtain ⟨xs, k, _, _, hlen, hxl, hf⟩ := DataW.trod_struct hst h
  rw [Tryz.cellsFc] at hlen
  have hxl' : xs.length = 5 := hxl
  obtain ⟨y0, y1, y2, y3, y4, rfl⟩ := len_fc hxl'
  obtain ⟨v0, v1, v2, v3, v4, rfl⟩ := len_fc hlen
  have g0 := hf 0 f0 rfl
  rw [o0, t0, Tryz.cellsStr] at g0
  have g1 := hf 1 f1 rfl
  rw [o1, t1, Tryz.cellsPms] at g1
  have g2 := hf 2 f2 rfl
  rw [o2, t2, Tryz.cellsInt] at g2
  have g3 := hf 3 f3 rfl
  rw [o3, t3, Tryz.cellsInt] at g3
  have g4 := hf 4 f4 rfl
  rw [o4, t4, Tryz.cellsInt] at g4
  simp at g0 g1 g2 g3 g4
  obtain ⟨z0, e0, _, w0⟩ := DataW.trod_string Tryz.underlying9 g0
  simp at e0
  subst e0
  have w0' : z0.size ≤ 9223372036854775807 := Nat.le_trans w0 (by unfold maxLen; omega)
  obtain ⟨z1, hr1, hl1⟩ := open_pms g1
  obtain ⟨z2, e2, _, w2⟩ := DataW.trod_int Tryz.underlying3 g2
  simp at e2
  subst e2
  obtain ⟨z3, e3, _, w3⟩ := DataW.trod_int Tryz.underlying3 g3
  simp at e3
  subst e3
  obtain ⟨z4, e4, _, w4⟩ := DataW.trod_int Tryz.underlying3 g4
  simp at e4
  subst e4
  exact ⟨(⟨z0, z1, z2, z3, z4⟩, v1), rfl, hr1, ⟨w0', hl1⟩⟩

theorem open_fcs {H : Type} {enc : TypeId × Value → H} {W : World} {fuel : Nat} {v : Value} {x : DataW H × List MemPlace}
    (h : DataW.trod enc Tryz.prog W 0 (fun _ => true) true fuel 41 [v] = some x) :
    ∃ xs : List Fc, FcR.Row W W.heap.size v xs ∧ okRow okFc xs := by
  rcases Deep.open_slice Tryz.underlying41 h with ⟨h0, _⟩ | ⟨ad, len, cap, m, n, D, Pl, hcs, hb, hl, hm, hmm, _, hx⟩
  · simp at h0
    subst h0
    exact ⟨[], FcR.row_nil _ _ _ _, by simp [okRow]⟩
  · simp at hcs
    subst hcs
    simp at hmm
    subst hmm
    have each : ∀ i, i < len → ∃ q : Fc × Value, (∀ j, j < 5 → W.cell? (ad.add (i * 5 + j)) = (fcC q)[j]?) ∧ FcR.rsub W W.heap.size q ∧ okFc (FcR.log q) := by
      intro i hi
      obtain ⟨cs', h1, h2⟩ := hx i (by omega)
      rw [Tryz.cellsFc] at h1
      obtain ⟨_, hlen, hcell⟩ := World.cells?_some h1
      obtain ⟨q, rfl, hs, hk⟩ := open_fc1 h2
      refine ⟨q, fun j hj => ?_, hs, hk⟩
      have c := hcell j hj
      rw [Deep.add_add] at c
      exact c
    obtain ⟨f, hf⟩ := @Deep.choose_lt (Fc × Value) ⟨fcZ⟩ _ _ each
    refine ⟨((List.range len).map f).map FcR.log, ⟨_, rfl, rowR_of f hl (by decide) FcR.len (fun i hi j hj => (hf i hi).1 j hj), ?_⟩, ?_, ?_⟩
    · intro p hp
      obtain ⟨i, hi, rfl⟩ := List.mem_map.mp hp
      exact (hf i (by simpa using hi)).2.1
    · simp
      unfold maxLen at hm
      omega
    · intro x hx
      obtain ⟨p, hp, rfl⟩ := List.mem_map.mp hx
      obtain ⟨i, hi, rfl⟩ := List.mem_map.mp hp
      exact (hf i (by simpa using hi)).2.2

end Go.Proofs.YtbanmldmdoedkaaGreatDoor

namespace Go.Proofs.YtbanmldmdoedkaaGreatDoor
open Go.RowKit

set_option maxRecDepth 100000 in
set_option maxHeartbeats 1600000 in
theorem specFnAt_any (B : Nat) (v0 v1 : Value) (fs : List Fc) (nm : ByteArray) (w : World) (hB : B ≤ w.heap.size) (hv : FcR.Row w B v1 fs) (hl : fs.length ≤ 1048576) :
    Calls Tryz.prog 111 #[.agg #[v0, v1], .string nm] w fun e w' => e = .returned (.int .i64 (fnAt fs nm)) ∧ Below w.heap.size w w' := by
  obtain ⟨a, cap, rfl⟩ := hv.len
  obtain ⟨N, HN⟩ : ∃ N, Hid (fs.length = N) := ⟨_, (rfl : fs.length = fs.length)⟩
  have H : Hid (FcR.Row w B (.slice a N cap) fs) := by rw [← HN.out]; exact hv
  rw [HN.out] at hl ⊢
  clear hv
  go_enter Tryz.func111, Tryz.ntmps111
  go_wp2
  go_loopw [5] (fun i wr => ∃ k : Nat, k ≤ N ∧ i = .int .i64 (k : Int) ∧ Hid (∀ j, (hj : j < fs.length) → j < k → sameB fs[j].name nm = false) ∧ Below (w.heap.size + 1) (w.alloc (.cells #[v0, .slice a N cap] 27)) wr) (fun i _ => N - (intOf i).toNat)
  case atStart => exact ⟨0, Nat.zero_le _, rfl, fun j _ hj => by omega, Below.refl _ _⟩
  case round =>
    obtain ⟨k, hk, rfl, HK, hbw⟩ := hrel
    have x1 : wr.cell? ⟨w.heap.size, 1, none⟩ = some (.slice a N cap) := (hbw.cell (p := ⟨w.heap.size, 1, none⟩) (by show _ < _; simp)).trans (by simp)
    have HB : Hid (Below w.heap.size w wr) := by
      refine Below.trans ?_ (hbw.mono (by omega))
      go_grown
    by_cases hlt : k < N
    · have hk1 : (k : Int) < (N : Int) := by omega
      have hk0 : (0 : Int) ≤ (k : Int) := by omega
      have hkl : k < fs.length := by have := HN.out; omega
      obtain ⟨b, off, pv, rfl, hb, c0, c1, c2, c3, c4, _⟩ := FcR.at H.out k hkl
      have d0 := (HB.out.cell (p := ⟨b, off + k * 5, none⟩) (by show b < _; omega)).trans c0
      obtain ⟨q, hqe⟩ : ∃ q, Hid (fs[k].name = q) := ⟨_, (rfl : fs[k].name = fs[k].name)⟩
      rw [hqe.out] at d0
      clear c0 c1 c2 c3 c4
      cases hs : sameB q nm
      · have HK1 : Hid (∀ j, (hj : j < fs.length) → j < k + 1 → sameB fs[j].name nm = false) := fun j hj hjk => by
          by_cases e : j = k
          · subst e
            rw [hqe.out]
            exact hs
          · exact HK.out j hj (by omega)
        unfold sameB at hs
        go_wp2
        go_roundw
        case rel => exact ⟨k + 1, by omega, by go_num, HK1, hbw⟩
        case measure => simp [intOf]; omega
      · have HF : Hid (fnAt fs nm = (k : Int)) := fnAt_at hkl HK.out (by rw [hqe.out]; exact hs)
        unfold sameB at hs
        go_wp2
        go_ret
        exact ⟨by rw [HF.out]; rfl, HB.out⟩
    · have HF : Hid (fnAt fs nm = -1) := fnAt_none (fun j hj => HK.out j hj (by have := HN.out; omega))
      go_wp2
      go_ret
      exact ⟨by rw [HF.out]; rfl, HB.out⟩

set_option maxRecDepth 100000 in
set_option maxHeartbeats 1600000 in
theorem implFnAt_any (B : Nat) (v0 v1 : Value) (fs : List Fc) (nm : ByteArray) (w : World) (hB : B ≤ w.heap.size) (hv : FcR.Row w B v1 fs) (hl : fs.length ≤ 1048576) :
    Calls Tryz.prog 130 #[.agg #[v0, v1], .string nm] w fun e w' => e = .returned (.int .i64 (fnAt fs nm)) ∧ Below w.heap.size w w' := by
  obtain ⟨a, cap, rfl⟩ := hv.len
  obtain ⟨N, HN⟩ : ∃ N, Hid (fs.length = N) := ⟨_, (rfl : fs.length = fs.length)⟩
  have H : Hid (FcR.Row w B (.slice a N cap) fs) := by rw [← HN.out]; exact hv
  rw [HN.out] at hl ⊢
  clear hv
  go_enter Tryz.func130, Tryz.ntmps130
  go_wp2
  go_loopw [10] (fun i wr => ∃ k : Nat, k ≤ N ∧ i = .int .i64 (k : Int) ∧ Hid (∀ j, (hj : j < fs.length) → j < k → sameB fs[j].name nm = false) ∧ Below w.heap.size w wr) (fun i _ => N - (intOf i).toNat)
  case atStart => exact ⟨0, Nat.zero_le _, rfl, fun j _ hj => by omega, by go_grown⟩
  case round =>
    obtain ⟨k, hk, rfl, HK, hbw⟩ := hrel
    by_cases hlt : k < N
    · have hk1 : (k : Int) < (N : Int) := by omega
      have hk0 : (0 : Int) ≤ (k : Int) := by omega
      have hkl : k < fs.length := by have := HN.out; omega
      obtain ⟨b, off, pv, rfl, hb, c0, c1, c2, c3, c4, hp⟩ := FcR.at H.out k hkl
      obtain ⟨pa, pc, rfl⟩ := hp.len
      have d0 := (hbw.cell (p := ⟨b, off + k * 5, none⟩) (by show b < _; omega)).trans c0
      have d1 := (hbw.cell (p := ⟨b, off + k * 5 + 1, none⟩) (by show b < _; omega)).trans c1
      have d2 := (hbw.cell (p := ⟨b, off + k * 5 + 2, none⟩) (by show b < _; omega)).trans c2
      have d3 := (hbw.cell (p := ⟨b, off + k * 5 + 3, none⟩) (by show b < _; omega)).trans c3
      have d4 := (hbw.cell (p := ⟨b, off + k * 5 + 4, none⟩) (by show b < _; omega)).trans c4
      obtain ⟨q, hqe⟩ : ∃ q, Hid (fs[k] = q) := ⟨_, (rfl : fs[k] = fs[k])⟩
      rw [hqe.out] at d0 d1 d2 d3 d4
      clear c0 c1 c2 c3 c4 hp
      obtain ⟨fn, fp, fr, fb, ft⟩ := q
      simp only at d0 d1 d2 d3 d4
      obtain ⟨pl, hpl⟩ : ∃ n, Hid (fp.length = n) := ⟨_, (rfl : fp.length = fp.length)⟩
      rw [hpl.out] at d1
      have hsz := hbw.size
      cases hs : sameB fn nm
      · have HK1 : Hid (∀ j, (hj : j < fs.length) → j < k + 1 → sameB fs[j].name nm = false) := fun j hj hjk => by
          by_cases e : j = k
          · subst e
            rw [hqe.out]
            exact hs
          · exact HK.out j hj (by omega)
        unfold sameB at hs
        go_wp2
        go_roundw
        case rel => exact ⟨k + 1, by omega, by go_num, HK1, hbw.alloc hsz _⟩
        case measure => simp [intOf]; omega
      · have HF : Hid (fnAt fs nm = (k : Int)) := fnAt_at hkl HK.out (by rw [hqe.out]; exact hs)
        unfold sameB at hs
        go_wp2
        go_ret
        exact ⟨by rw [HF.out]; rfl, hbw.alloc hsz _⟩
    · have HF : Hid (fnAt fs nm = -1) := fnAt_none (fun j hj => HK.out j hj (by have := HN.out; omega))
      go_wp2
      go_ret
      exact ⟨by rw [HF.out]; rfl, hbw⟩

end Go.Proofs.YtbanmldmdoedkaaGreatDoor

namespace Go.Proofs.YtbanmldmdoedkaaGreatDoor
open Go.RowKit

theorem NdR.at {w : World} {B : Nat} {a : Option Addr} {n cap : Nat} {xs : List Nd} (h : NdR.Row w B (.slice a n cap) xs) (i : Nat) (hi : i < xs.length) :
    ∃ b off v0, a = some ⟨b, off, none⟩ ∧ b < B ∧ w.cell? ⟨b, off + i * 4, none⟩ = some (.int .i64 xs[i].kind) ∧ w.cell? ⟨b, off + i * 4 + 1, none⟩ = some (.int .i64 xs[i].num) ∧ w.cell? ⟨b, off + i * 4 + 2, none⟩ = some (.string xs[i].name) ∧ w.cell? ⟨b, off + i * 4 + 3, none⟩ = some (v0) ∧ RowI w B v0 xs[i].kids := by
  obtain ⟨b, off, p, ha, hb, hp, hk, hc⟩ := RowTy.Row.at h i hi
  obtain ⟨q, v0⟩ := p
  obtain rfl : q = xs[i] := hp
  exact ⟨b, off, v0, ha, hb, hc 0 (by decide), hc 1 (by decide), hc 2 (by decide), hc 3 (by decide), hk⟩

set_option maxRecDepth 100000 in
set_option maxHeartbeats 1600000 in
theorem eqNode_same (B : Nat) (q : Nd) (a0 b0 : Value) (w : World) (hB : B ≤ w.heap.size) (ha0 : RowI w B a0 q.kids) (hb0 : RowI w B b0 q.kids) (hl : szNd q ≤ 1048576) :
    Calls Tryz.prog 104 #[.agg #[.int .i64 q.kind, .int .i64 q.num, .string q.name, a0], .agg #[.int .i64 q.kind, .int .i64 q.num, .string q.name, b0]] w fun e w' => e = .returned (.bool true) ∧ Below w.heap.size w w' := by
  have cE0 : Hid (∀ W, Below w.heap.size w W → Calls Tryz.prog 152 #[a0, b0] W fun e w' => e = .returned (.bool true) ∧ Below W.heap.size W w') := fun W hW =>
    eqIntS_same B _ _ q.kids W (Nat.le_trans hB hW.size) (ha0.keep (hW.mono hB)) (hb0.keep (hW.mono hB)) (Nat.le_trans (le_szNd_kids q) hl)
  obtain ⟨kind, num, name, kids⟩ := q
  simp only
  clear hl ha0 hb0
  go_enter Tryz.func104, Tryz.ntmps104
  go_wp2_with fail
  go_at_call 152
  refine Calls.mono (cE0.out _ (by go_grown)) ?_
  rintro e w1 ⟨rfl, hb⟩
  have HB1 : Hid (Below w.heap.size w w1) := by
    have h0 : Below w.heap.size w ((w.alloc (.cells #[.int .i64 kind, .int .i64 num, .string name, a0] 87)).alloc (.cells #[.int .i64 kind, .int .i64 num, .string name, b0] 87)) := by go_grown
    exact h0.trans (hb.mono h0.size)
  have hs1 : ∀ x, x ≤ w.heap.size + 1 → x < w1.heap.size := fun x hx => by have := hb.size; simp at this; omega
  clear hb cE0
  have HS1 : Hid _ := hs1
  clear hs1
  go_wp2
  go_ret
  exact ⟨rfl, HB1.out⟩

set_option maxRecDepth 100000 in
set_option maxHeartbeats 1600000 in
theorem eqNodeS_same (B : Nat) (va vb : Value) (xs : List Nd) (w : World) (hB : B ≤ w.heap.size) (ha : NdR.Row w B va xs) (hb : NdR.Row w B vb xs) (hl : szRow szNd xs ≤ 1048576) :
    Calls Tryz.prog 59 #[va, vb] w fun e w' => e = .returned (.bool true) ∧ Below w.heap.size w w' := by
  obtain ⟨a, ca, rfl⟩ := ha.len
  obtain ⟨b, cb, rfl⟩ := hb.len
  obtain ⟨N, HN⟩ : ∃ N, Hid (xs.length = N) := ⟨_, (rfl : xs.length = xs.length)⟩
  have H : Hid (NdR.Row w B (.slice a N ca) xs ∧ NdR.Row w B (.slice b N cb) xs) := by rw [← HN.out]; exact ⟨ha, hb⟩
  have HS : Hid (szRow szNd xs ≤ 1048576) := hl
  have hN : N ≤ 1048576 := by have := len_szRow szNd xs; have := HN.out; omega
  rw [HN.out]
  clear ha hb hl
  go_enter Tryz.func59, Tryz.ntmps59
  go_wp2
  go_loopw [5] (fun i wr => ∃ k : Nat, k ≤ N ∧ i = .int .i64 (k : Int) ∧ Below w.heap.size w wr) (fun i _ => N - (intOf i).toNat)
  case atStart => exact ⟨0, Nat.zero_le _, rfl, Below.refl _ _⟩
  case round =>
    obtain ⟨k, hk, rfl, hbw⟩ := hrel
    by_cases hlt : k < N
    · have hk1 : (k : Int) < (N : Int) := by omega
      have hk0 : (0 : Int) ≤ (k : Int) := by omega
      have hkl : k < xs.length := by have := HN.out; omega
      obtain ⟨ba, oa, a0, rfl, hba, c0, c1, c2, c3, ra0⟩ := NdR.at H.out.1 k hkl
      obtain ⟨bb, ob, b0, rfl, hbb, e0, e1, e2, e3, rb0⟩ := NdR.at H.out.2 k hkl
      have hq : szNd xs[k] ≤ 1048576 := Nat.le_trans (mem_szRow szNd (List.getElem_mem hkl)) HS.out
      obtain ⟨q, hqe⟩ : ∃ q, Hid (xs[k] = q) := ⟨_, (rfl : xs[k] = xs[k])⟩
      rw [hqe.out] at c0 c1 c2 e0 e1 e2 ra0 rb0 hq
      have cQ : Hid (∀ W, Below w.heap.size w W → Calls Tryz.prog 104 #[.agg #[.int .i64 q.kind, .int .i64 q.num, .string q.name, a0], .agg #[.int .i64 q.kind, .int .i64 q.num, .string q.name, b0]] W fun e w' => e = .returned (.bool true) ∧ Below W.heap.size W w') := fun W hW =>
        eqNode_same B q _ _ W (Nat.le_trans hB hW.size) (ra0.keep (hW.mono hB)) (rb0.keep (hW.mono hB)) hq
      obtain ⟨kind, num, name, kids⟩ := q
      simp only at c0 c1 c2 e0 e1 e2 cQ
      clear hq ra0 rb0
      have hba1 : ba < wr.heap.size := by have := hbw.size; omega
      have hbb1 : bb < wr.heap.size := by have := hbw.size; omega
      have d0 := (hbw.cell (p := ⟨ba, oa + k * 4, none⟩) (by show ba < _; omega)).trans c0
      have f0 := (hbw.cell (p := ⟨bb, ob + k * 4, none⟩) (by show bb < _; omega)).trans e0
      have d1 := (hbw.cell (p := ⟨ba, oa + k * 4 + 1, none⟩) (by show ba < _; omega)).trans c1
      have f1 := (hbw.cell (p := ⟨bb, ob + k * 4 + 1, none⟩) (by show bb < _; omega)).trans e1
      have d2 := (hbw.cell (p := ⟨ba, oa + k * 4 + 2, none⟩) (by show ba < _; omega)).trans c2
      have f2 := (hbw.cell (p := ⟨bb, ob + k * 4 + 2, none⟩) (by show bb < _; omega)).trans e2
      have d3 := (hbw.cell (p := ⟨ba, oa + k * 4 + 3, none⟩) (by show ba < _; omega)).trans c3
      have f3 := (hbw.cell (p := ⟨bb, ob + k * 4 + 3, none⟩) (by show bb < _; omega)).trans e3
      clear c0 c1 c2 c3 e0 e1 e2 e3
      go_wp2_with fail
      go_region_held3 (fun w' => (w'.cell? ⟨ba, oa + k * 4, none⟩ = some (.int .i64 kind) ∧ w'.cell? ⟨ba, oa + k * 4 + 1, none⟩ = some (.int .i64 num) ∧ w'.cell? ⟨ba, oa + k * 4 + 2, none⟩ = some (.string name) ∧ w'.cell? ⟨ba, oa + k * 4 + 3, none⟩ = some (a0)) ∧ (w'.cell? ⟨bb, ob + k * 4, none⟩ = some (.int .i64 kind) ∧ w'.cell? ⟨bb, ob + k * 4 + 1, none⟩ = some (.int .i64 num) ∧ w'.cell? ⟨bb, ob + k * 4 + 2, none⟩ = some (.string name) ∧ w'.cell? ⟨bb, ob + k * 4 + 3, none⟩ = some (b0))) (first | exact ⟨⟨d0, d1, d2, d3⟩, ⟨f0, f1, f2, f3⟩⟩ | exact ⟨⟨(hb1.cell (p := ⟨ba, oa + k * 4, none⟩) hba1).trans d0, (hb1.cell (p := ⟨ba, oa + k * 4 + 1, none⟩) hba1).trans d1, (hb1.cell (p := ⟨ba, oa + k * 4 + 2, none⟩) hba1).trans d2, (hb1.cell (p := ⟨ba, oa + k * 4 + 3, none⟩) hba1).trans d3⟩, ⟨(hb1.cell (p := ⟨bb, ob + k * 4, none⟩) hbb1).trans f0, (hb1.cell (p := ⟨bb, ob + k * 4 + 1, none⟩) hbb1).trans f1, (hb1.cell (p := ⟨bb, ob + k * 4 + 2, none⟩) hbb1).trans f2, (hb1.cell (p := ⟨bb, ob + k * 4 + 3, none⟩) hbb1).trans f3⟩⟩) ((go_at_call 104; refine Calls.mono (cQ.out _ hbw.drew) ?_; rintro e w1 ⟨rfl, hb1⟩))
      all_goals
        go_wp2
        go_roundw
        case rel => exact ⟨k + 1, by omega, by go_num, hbw.drew.trans (hb1.mono hbw.size)⟩
        case measure => simp [intOf]; omega
    · go_wp2
      go_ret
      exact ⟨rfl, hbw⟩

set_option maxRecDepth 100000 in
set_option maxHeartbeats 1600000 in
theorem szNode_sum (B : Nat) (q : Nd) (a0 : Value) (left : Int) (w : World) (hB : B ≤ w.heap.size) (ha0 : RowI w B a0 q.kids) (hok : okNd q) (h0 : 0 ≤ left) (h1 : left ≤ 1048576) :
    Calls Tryz.prog 95 #[.agg #[.int .i64 q.kind, .int .i64 q.num, .string q.name, a0], .int .i64 left] w fun e w' => (∃ r : Int, e = .returned (.int .i64 r) ∧ (r = -1 ∨ (0 ≤ r ∧ r + (szNd q : Int) = left))) ∧ Below w.heap.size w w' := by
  have cS0 : Hid (∀ W l, 0 ≤ l → l ≤ 1048576 → Below w.heap.size w W → Calls Tryz.prog 146 #[a0, .int .i64 l] W fun e w' => (∃ r : Int, e = .returned (.int .i64 r) ∧ (r = -1 ∨ (0 ≤ r ∧ r + (List.length q.kids : Int) = l))) ∧ Below W.heap.size W w') := fun W l hl0 hl1 hW =>
    szIntS_sum B _ q.kids l W (Nat.le_trans hB hW.size) (ha0.keep (hW.mono hB)) (okNd_kids hok) hl0 hl1
  have hs_name : q.name.size ≤ 9223372036854775807 := okNd_name hok
  have HZ : Hid ((szNd q : Int) = (q.name.size : Int) + (List.length q.kids : Int)) := by
    show (_ : Int) = _
    unfold szNd
    push_cast
    rfl
  obtain ⟨kind, num, name, kids⟩ := q
  simp only at *
  obtain ⟨z0, hz0⟩ : ∃ z : Nat, Hid (List.length kids = z) := ⟨_, (rfl : List.length kids = List.length kids)⟩
  rw [hz0.out] at cS0 HZ
  rw [HZ.out]
  clear HZ hok ha0 hz0
  go_enter Tryz.func95, Tryz.ntmps95
  by_cases h_name : left - (name.size : Int) < 0
  · go_wp2
    go_ret
    exact ⟨⟨_, rfl, .inl rfl⟩, by go_grown⟩
  go_wp2_with fail
  go_at_call 146
  refine Calls.mono (cS0.out _ (left - (name.size : Int)) (by omega) (by omega) (by go_grown)) ?_
  rintro e w1 ⟨⟨r1, rfl, hr1⟩, hb⟩
  have HB1 : Hid (Below w.heap.size w w1) := by
    have h0 : Below w.heap.size w (w.alloc (.cells #[.int .i64 kind, .int .i64 num, .string name, a0] 131)) := by go_grown
    exact h0.trans (hb.mono h0.size)
  have hs1 : w.heap.size < w1.heap.size := by have := hb.size; simp at this; omega
  clear hb cS0
  rcases hr1 with rfl | ⟨hr1a, hr1b⟩
  · go_wp2
    go_ret
    exact ⟨⟨_, rfl, .inl rfl⟩, HB1.out⟩
  have hr1n : ¬ r1 < 0 := by omega
  go_wp2
  go_ret
  exact ⟨⟨_, rfl, .inr ⟨by omega, by omega⟩⟩, HB1.out⟩

set_option maxRecDepth 100000 in
set_option maxHeartbeats 1600000 in
theorem szNodeS_sum (B : Nat) (v : Value) (xs : List Nd) (left : Int) (w : World) (hB : B ≤ w.heap.size) (hv : NdR.Row w B v xs) (hok : okRow okNd xs) (h0 : 0 ≤ left) (h1 : left ≤ 1048576) :
    Calls Tryz.prog 51 #[v, .int .i64 left] w fun e w' => (∃ r : Int, e = .returned (.int .i64 r) ∧ (r = -1 ∨ (0 ≤ r ∧ r + (szRow szNd xs : Int) = left))) ∧ Below w.heap.size w w' := by
  obtain ⟨a, cap, rfl⟩ := hv.len
  obtain ⟨N, HN⟩ : ∃ N, Hid (xs.length = N) := ⟨_, (rfl : xs.length = xs.length)⟩
  have H : Hid (NdR.Row w B (.slice a N cap) xs) := by rw [← HN.out]; exact hv
  have HS : Hid (okRow okNd xs) := hok
  have hlen : N ≤ 9223372036854775807 := by rw [← HN.out]; exact hok.1
  rw [HN.out]
  clear hv hok
  by_cases hneg : left - (N : Int) < 0
  · go_enter Tryz.func51, Tryz.ntmps51
    go_wp2
    go_ret
    exact ⟨⟨_, rfl, .inl rfl⟩, Below.refl _ _⟩
  go_enter Tryz.func51, Tryz.ntmps51
  go_wp2
  go_loopw [1, 5] (fun l i wr => ∃ (k : Nat) (r : Int), k ≤ N ∧ i = .int .i64 (k : Int) ∧ l = .int .i64 r ∧ 0 ≤ r ∧ r ≤ 1048576 ∧ Hid (r + (N : Int) + (szTo szNd xs k : Int) = left) ∧ Below w.heap.size w wr) (fun _ i _ => N - (intOf i).toNat)
  case atStart => exact ⟨0, left - (N : Int), Nat.zero_le _, rfl, rfl, by omega, by omega, by show (_ : Int) = _; rw [szTo_zero]; omega, Below.refl _ _⟩
  case round =>
    obtain ⟨k, r, hk, rfl, rfl, hr0, hr1, HR, hbw⟩ := hrel
    by_cases hlt : k < N
    · have hk1 : (k : Int) < (N : Int) := by omega
      have hk0 : (0 : Int) ≤ (k : Int) := by omega
      have hkl : k < xs.length := by have := HN.out; omega
      obtain ⟨b, off, a0, rfl, hb, c0, c1, c2, c3, ra0⟩ := NdR.at H.out k hkl
      have hq := HS.out.2 xs[k] (List.getElem_mem hkl)
      have HQ : Hid (szTo szNd xs (k + 1) = szTo szNd xs k + szNd xs[k]) := szTo_succ szNd xs k hkl
      obtain ⟨q, hqe⟩ : ∃ q, Hid (xs[k] = q) := ⟨_, (rfl : xs[k] = xs[k])⟩
      rw [hqe.out] at c0 c1 c2 ra0 hq HQ
      have d0 := (hbw.cell (p := ⟨b, off + k * 4, none⟩) (by show b < _; omega)).trans c0
      have d1 := (hbw.cell (p := ⟨b, off + k * 4 + 1, none⟩) (by show b < _; omega)).trans c1
      have d2 := (hbw.cell (p := ⟨b, off + k * 4 + 2, none⟩) (by show b < _; omega)).trans c2
      have d3 := (hbw.cell (p := ⟨b, off + k * 4 + 3, none⟩) (by show b < _; omega)).trans c3
      have cQ : Hid (∀ W, Below w.heap.size w W → Calls Tryz.prog 95 #[.agg #[.int .i64 q.kind, .int .i64 q.num, .string q.name, a0], .int .i64 r] W fun e w' => (∃ r' : Int, e = .returned (.int .i64 r') ∧ (r' = -1 ∨ (0 ≤ r' ∧ r' + (szNd q : Int) = r))) ∧ Below W.heap.size W w') := fun W hW => szNode_sum B q _ r W (Nat.le_trans hB hW.size) (ra0.keep (hW.mono hB)) hq hr0 hr1
      clear c0 c1 c2 c3 hq ra0
      go_wp2_with fail
      go_at_call 95
      refine Calls.mono (cQ.out _ hbw) ?_
      rintro e w1 ⟨⟨r', rfl, hr'⟩, hb1⟩
      clear cQ
      rcases hr' with rfl | ⟨hr0', hr2⟩
      · go_wp2
        go_ret
        exact ⟨⟨_, rfl, .inl rfl⟩, hbw.trans (hb1.mono hbw.size)⟩
      · have HR1 : Hid (r' + (N : Int) + (szTo szNd xs (k + 1) : Int) = left) := by
          show (_ : Int) = _
          rw [HQ.out]
          have := HR.out
          push_cast
          omega
        have hr3 : r' ≤ 1048576 := by omega
        have hrn : ¬ r' < 0 := by omega
        clear hr2
        go_wp2
        go_roundw
        case rel => exact ⟨k + 1, r', by omega, by go_num, rfl, hr0', hr3, HR1, hbw.trans (hb1.mono hbw.size)⟩
        case measure => simp [intOf]; omega
    · have hkN : Hid (k = N) := (by omega : k = N)
      have HF : Hid (r + (szRow szNd xs : Int) = left) := by
        show (_ : Int) = _
        have := HR.out
        rw [hkN.out, ← HN.out, szTo_all] at this
        unfold szRow
        push_cast
        omega
      go_wp2
      go_ret
      exact ⟨⟨_, rfl, .inr ⟨hr0, HF.out⟩⟩, hbw⟩

set_option maxRecDepth 100000 in
set_option maxHeartbeats 1600000 in
theorem toNode_any (B : Nat) (q : Nd) (a0 : Value) (w : World) (hB : B ≤ w.heap.size) (ha0 : RowI w B a0 q.kids) (hl : szNd q ≤ 1048576) :
    Calls Tryz.prog 97 #[.agg #[.int .i64 q.kind, .int .i64 q.num, .string q.name, a0]] w fun e w' => ∃ g cap, e = .returned (.agg #[.int .i64 q.kind, .int .i64 q.num, .string q.name, (.slice (some ⟨g, 0, none⟩) q.kids.length cap)]) ∧ OwnsI w' w.heap.size (.slice (some ⟨g, 0, none⟩) q.kids.length cap) q.kids ∧ Below w.heap.size w w' := by
  have cT : Hid (∀ W, Below w.heap.size w W → Calls Tryz.prog 148 #[a0] W fun e w' => ∃ g cap, e = .returned (.slice (some ⟨g, 0, none⟩) q.kids.length cap) ∧ OwnsI w' W.heap.size (.slice (some ⟨g, 0, none⟩) q.kids.length cap) q.kids ∧ Below W.heap.size W w') := fun W hW => by
    refine (toIntS_any B _ q.kids W (Nat.le_trans hB hW.size) (ha0.keep (hW.mono hB)) (Nat.le_trans (le_szNd_kids q) hl)).mono ?_
    rintro e w1 ⟨g, cap, rfl, ho, hb⟩
    exact ⟨g, cap, rfl, ho, hb⟩
  obtain ⟨kind, num, name, kids⟩ := q
  simp only at cT ⊢
  obtain ⟨K, HK⟩ : ∃ K, Hid (kids.length = K) := ⟨_, (rfl : kids.length = kids.length)⟩
  rw [HK.out] at cT ⊢
  clear ha0 hl
  go_enter Tryz.func97, Tryz.ntmps97
  go_wp2_with fail
  go_at_call 148
  refine Calls.mono (cT.out _ (by go_grown)) ?_
  rintro e w1 ⟨g, cap, rfl, ho, hb1⟩
  have hO := (hb1.block (w.heap.size + 2) (by first | (simp; done) | (simp; omega))).trans (third_new w _ _ _)
  have hR := (hb1.block (w.heap.size + 1) (by first | (simp; done) | (simp; omega))).trans (second_new w _ _ _)
  have hA := (hb1.block w.heap.size (by first | (simp; done) | (simp; omega))).trans (first_new w _ _ _)
  have o0 := cell_at hO 0
  have r0 := cell_at hR 0
  have f0 := free_at hR 0
  have o1 := cell_at hO 1
  have r1 := cell_at hR 1
  have f1 := free_at hR 1
  have o2 := cell_at hO 2
  have r2 := cell_at hR 2
  have f2 := free_at hR 2
  have o3 := cell_at hO 3
  have r3 := cell_at hR 3
  have f3 := free_at hR 3
  have p3 := free_at hO 3
  have HE : Hid (∀ u3 v0 v1 v2 v3, (((((w1.setCell ⟨w.heap.size + 2, 3, none⟩ u3).setCell ⟨w.heap.size + 1, 0, none⟩ v0).setCell ⟨w.heap.size + 1, 1, none⟩ v1).setCell ⟨w.heap.size + 1, 2, none⟩ v2).setCell ⟨w.heap.size + 1, 3, none⟩ v3).heap[w.heap.size + 1]? = some (.cells #[v0, v1, v2, v3] 87 (0, 0))) := fun u3 v0 v1 v2 v3 => by
    simp [World.setCell, Array.getElem?_modify, hR]
  have HN : Hid (∀ u3 v0 v1 v2 v3 x, x ≠ w.heap.size + 1 → x ≠ w.heap.size + 2 → (((((w1.setCell ⟨w.heap.size + 2, 3, none⟩ u3).setCell ⟨w.heap.size + 1, 0, none⟩ v0).setCell ⟨w.heap.size + 1, 1, none⟩ v1).setCell ⟨w.heap.size + 1, 2, none⟩ v2).setCell ⟨w.heap.size + 1, 3, none⟩ v3).heap[x]? = w1.heap[x]?) := fun u3 v0 v1 v2 v3 x h1 h2 => by
    simp only [kept_set h1, kept_set h2]
  simp at o0 r0 o1 r1 o2 r2 o3 r3
  have HO : Hid (OwnsI w1 w.heap.size (.slice (some ⟨g, 0, none⟩) K cap) kids ∧ w.heap.size + 3 ≤ g) := by
    have h3 := OwnsR.lt ho g (by simp [fpOf, Value.ownBlock])
    simp at h3
    refine ⟨OwnsR.base ho (fun b hb => ?_), by omega⟩
    have : b = g := by simpa [fpOf, Value.ownBlock] using hb
    omega
  have HB : Hid (Below w.heap.size w w1) := by
    refine Below.trans ?_ (hb1.mono ?_)
    · go_grown
    · simp; omega
  clear hb1 hO hR hA ho cT
  go_wp2
  have e0 := fun u3 v0 v1 v2 v3 => cell_at (HE.out u3 v0 v1 v2 v3) 0
  have e1 := fun u3 v0 v1 v2 v3 => cell_at (HE.out u3 v0 v1 v2 v3) 1
  have e2 := fun u3 v0 v1 v2 v3 => cell_at (HE.out u3 v0 v1 v2 v3) 2
  have e3 := fun u3 v0 v1 v2 v3 => cell_at (HE.out u3 v0 v1 v2 v3) 3
  simp at e0 e1 e2 e3
  refine bodyPost_ret (by simp [results, Tryz.results97, go_sem, e0, e1, e2, e3]; try rfl) rfl ?_
  refine ⟨g, cap, rfl, OwnsR.same HO.out.1 (fun b hb => ?_), ?_⟩
  · have hg := HO.out.2
    have : b = g := by simpa [fpOf, Value.ownBlock] using hb
    subst this
    exact HN.out _ _ _ _ _ b (by omega) (by omega)
  · have h1 := HB.out
    go_grown

theorem Tryz.infoNd : (Tryz.prog.info? 87).map (fun i => (i.zero, i.size, i.bytes)) = some (some (.agg #[.int .i64 0, .int .i64 0, .string ByteArray.empty, .slice none 0 0]), 4, 56) := by kernel_rfl
def ndZ : Nd × Value := (⟨0, 0, ByteArray.empty, []⟩, .slice none 0 0)

set_option maxRecDepth 100000 in
set_option maxHeartbeats 1600000 in
theorem toNodeS_any (B : Nat) (v : Value) (xs : List Nd) (w : World) (hB : B ≤ w.heap.size) (hv : NdR.Row w B v xs) (hl : szRow szNd xs ≤ 1048576) :
    Calls Tryz.prog 54 #[v] w fun e w' => ∃ g cap, e = .returned (.slice (some ⟨g, 0, none⟩) xs.length cap) ∧ NdR.Own w' w.heap.size w'.heap.size (.slice (some ⟨g, 0, none⟩) xs.length cap) xs ∧ Below w.heap.size w w' := by
  obtain ⟨a, cap, rfl⟩ := hv.len
  obtain ⟨N, HN⟩ : ∃ N, Hid (xs.length = N) := ⟨_, (rfl : xs.length = xs.length)⟩
  have H : Hid (NdR.Row w B (.slice a N cap) xs) := by rw [← HN.out]; exact hv
  have HS : Hid (szRow szNd xs ≤ 1048576) := hl
  have hN : N ≤ 1048576 := by have := len_szRow szNd xs; have := HN.out; omega
  rw [HN.out]
  clear hv hl
  obtain ⟨i0, hi, hz0, hz1, hz2⟩ := info_parts Tryz.infoNd
  go_enter Tryz.func54, Tryz.ntmps54
  go_wp2_with (at_make; refine wpList_make_full _ rfl _ _ 24 rfl w.heap.size 87 i0 _ 4 Tryz.underlying24 hi hz0 hz1 _ _ _ _ N rfl rfl (by omega) (by omega) (by rw [hz2]; omega) (by unfold maxLen; omega) (Nat.le_refl _) ?_; intro w0 hown0 hg0)
  clear hi hz0 hz1 hz2
  go_loopw [4] (fun i wr => ∃ k : Nat, k ≤ N ∧ i = .int .i64 (k : Int) ∧ Hid (Made NdR w wr N ndZ xs k) ∧ Below w.heap.size w wr) (fun i _ => N - (intOf i).toNat)
  case atStart =>
    refine ⟨0, Nat.zero_le _, rfl, ?_, (Below.refl _ _).grown hg0 (Nat.le_refl _) (fun k hk => by cases hk)⟩
    show Made _ _ _ _ _ _ _
    refine Made.start xs ?_
    unfold OwnsR
    have hzc := zero_cells (enc := NdR.enc) (k := NdR.k) ndZ (.agg #[.int .i64 0, .int .i64 0, .string ByteArray.empty, .slice none 0 0]) NdR.len (by decide) (by simp [Value.cells, NdR, ndC, ndZ]) N
    rw [List.length_replicate, ← hzc]
    exact hown0
  case round =>
    obtain ⟨k, hk, rfl, HM, hbw⟩ := hrel
    clear hown0 hg0
    by_cases hlt : k < N
    · have hk1 : (k : Int) < (N : Int) := by omega
      have hk0 : (0 : Int) ≤ (k : Int) := by omega
      have hkl : k < xs.length := by have := HN.out; omega
      obtain ⟨ba, oa, a0, rfl, hba, c0, c1, c2, c3, ra0⟩ := NdR.at H.out k hkl
      have hq : szNd xs[k] ≤ 1048576 := Nat.le_trans (mem_szRow szNd (List.getElem_mem hkl)) HS.out
      obtain ⟨q, hqe⟩ : ∃ q, Hid (xs[k] = q) := ⟨_, (rfl : xs[k] = xs[k])⟩
      rw [hqe.out] at c0 c1 c2 ra0 hq
      have d0 := (hbw.cell (p := ⟨ba, oa + k * 4, none⟩) (by show ba < _; omega)).trans c0
      have d1 := (hbw.cell (p := ⟨ba, oa + k * 4 + 1, none⟩) (by show ba < _; omega)).trans c1
      have d2 := (hbw.cell (p := ⟨ba, oa + k * 4 + 2, none⟩) (by show ba < _; omega)).trans c2
      have d3 := (hbw.cell (p := ⟨ba, oa + k * 4 + 3, none⟩) (by show ba < _; omega)).trans c3
      have cT : Hid (∀ W, Below w.heap.size w W → Calls Tryz.prog 97 #[.agg #[.int .i64 q.kind, .int .i64 q.num, .string q.name, a0]] W fun e w' => ∃ g cap, e = .returned (.agg #[.int .i64 q.kind, .int .i64 q.num, .string q.name, (.slice (some ⟨g, 0, none⟩) q.kids.length cap)]) ∧ OwnsI w' W.heap.size (.slice (some ⟨g, 0, none⟩) q.kids.length cap) q.kids ∧ Below W.heap.size W w') := fun W hW =>
        toNode_any B q _ W (Nat.le_trans hB hW.size) (ra0.keep (hW.mono hB)) hq
      clear c0 c1 c2 c3 hq ra0
      go_wp2_with fail
      go_at_call 97
      refine Calls.mono (cT.out _ hbw) ?_
      rintro e w1 ⟨g, gc, rfl, ho, hb1⟩
      have S : Hid (Made NdR w (putCells w1 w.heap.size (k * 4) (ndC (q, .slice (some ⟨g, 0, none⟩) q.kids.length gc))) N ndZ xs (k + 1)) := Made.step HM.out HN.out hlt hb1 (q, .slice (some ⟨g, 0, none⟩) q.kids.length gc) hqe.out.symm ho (by simp [NdR, fps, fpOf, Value.ownBlock])
      clear ho
      obtain ⟨hc, hf⟩ := Made.cells HM.out HN.out hlt hb1
      have z0 : w1.cell? ⟨w.heap.size, k * 4, none⟩ = some (.int .i64 0) := hc 0 (by decide)
      have f0 : w1.frozen? ⟨w.heap.size, k * 4, none⟩ = false := hf _
      have z1 : w1.cell? ⟨w.heap.size, k * 4 + 1, none⟩ = some (.int .i64 0) := hc 1 (by decide)
      have f1 : w1.frozen? ⟨w.heap.size, k * 4 + 1, none⟩ = false := hf _
      have z2 : w1.cell? ⟨w.heap.size, k * 4 + 2, none⟩ = some (.string ByteArray.empty) := hc 2 (by decide)
      have f2 : w1.frozen? ⟨w.heap.size, k * 4 + 2, none⟩ = false := hf _
      have z3 : w1.cell? ⟨w.heap.size, k * 4 + 3, none⟩ = some (.slice none 0 0) := hc 3 (by decide)
      have f3 : w1.frozen? ⟨w.heap.size, k * 4 + 3, none⟩ = false := hf _
      have HB1 : Hid (Below w.heap.size w w1) := hbw.trans (hb1.mono hbw.size)
      clear hc hf hb1 HM cT d0 d1 d2 d3
      go_wp2
      go_roundw
      case rel => exact ⟨k + 1, by omega, by go_num, S, putCells_below (Nat.le_refl _) (ndC (q, _)) _ _ _ HB1.out⟩
      case measure => simp [intOf]; omega
    · have hkN : Hid (k = N) := (by omega : k = N)
      have HF : Hid (NdR.Own wr w.heap.size wr.heap.size (.slice (some ⟨w.heap.size, 0, none⟩) N N) xs) := by
        have := HM.out
        rw [hkN.out] at this
        exact this.done HN.out
      go_wp2
      go_ret
      exact ⟨_, _, rfl, HF.out, hbw⟩

theorem Tryz.structNd : ∃ f0 f1 f2 f3 : Field, Tryz.prog.underlying 131 = some (.struct #[f0, f1, f2, f3]) ∧ f0.offset = 0 ∧ f1.offset = 1 ∧ f2.offset = 2 ∧ f3.offset = 3 ∧ f0.type = 3 ∧ f1.type = 3 ∧ f2.type = 9 ∧ f3.type = 85 := ⟨_, _, _, _, Tryz.underlying131, rfl, rfl, rfl, rfl, rfl, rfl, rfl, rfl⟩
theorem Tryz.cellsNd : Tryz.prog.cellsOf 131 = 4 := by kernel_rfl
theorem Tryz.cellsNds : Tryz.prog.cellsOf 40 = 1 := by kernel_rfl
theorem len_nd {γ : Type} {xs : List γ} (h : xs.length = 4) : ∃ x0 x1 x2 x3, xs = [x0, x1, x2, x3] := by
  match xs, h with
  | [x0, x1, x2, x3], _ => exact ⟨_, _, _, _, rfl⟩

/-- One Node out of its cells. -/
theorem open_nd1 {H : Type} {enc : TypeId × Value → H} {W : World} {fuel : Nat} {cs : List Value} {x : DataW H × List MemPlace}
    (h : DataW.trod enc Tryz.prog W 0 (fun _ => true) true fuel 131 cs = some x) :
    ∃ q : Nd × Value, cs = ndC q ∧ NdR.rsub W W.heap.size q ∧ okNd (NdR.log q) := by
  obtain ⟨f0, f1, f2, f3, hst, o0, o1, o2, o3, t0, t1, t2, t3⟩ := Tryz.structNd
  obtain ⟨xs, k, _, _, hlen, hxl, hf⟩ := DataW.trod_struct hst h
  rw [Tryz.cellsNd] at hlen
  have hxl' : xs.length = 4 := hxl
  obtain ⟨y0, y1, y2, y3, rfl⟩ := len_nd hxl'
  obtain ⟨v0, v1, v2, v3, rfl⟩ := len_nd hlen
  have g0 := hf 0 f0 rfl
  rw [o0, t0, Tryz.cellsInt] at g0
  have g1 := hf 1 f1 rfl
  rw [o1, t1, Tryz.cellsInt] at g1
  have g2 := hf 2 f2 rfl
  rw [o2, t2, Tryz.cellsStr] at g2
  have g3 := hf 3 f3 rfl
  rw [o3, t3, Tryz.cellsInts] at g3
  simp at g0 g1 g2 g3
  obtain ⟨z0, e0, _, w0⟩ := DataW.trod_int Tryz.underlying3 g0
  simp at e0
  subst e0
  obtain ⟨z1, e1, _, w1⟩ := DataW.trod_int Tryz.underlying3 g1
  simp at e1
  subst e1
  obtain ⟨z2, e2, _, w2⟩ := DataW.trod_string Tryz.underlying9 g2
  simp at e2
  subst e2
  have w2' : z2.size ≤ 9223372036854775807 := Nat.le_trans w2 (by unfold maxLen; omega)
  obtain ⟨z3, hr3, hl3, _⟩ := open_rowI g3
  exact ⟨(⟨z0, z1, z2, z3⟩, v3), rfl, hr3, ⟨w2', hl3⟩⟩

theorem open_nds {H : Type} {enc : TypeId × Value → H} {W : World} {fuel : Nat} {v : Value} {x : DataW H × List MemPlace}
    (h : DataW.trod enc Tryz.prog W 0 (fun _ => true) true fuel 40 [v] = some x) :
    ∃ xs : List Nd, NdR.Row W W.heap.size v xs ∧ okRow okNd xs := by
  rcases Deep.open_slice Tryz.underlying40 h with ⟨h0, _⟩ | ⟨ad, len, cap, m, n, D, Pl, hcs, hb, hl, hm, hmm, _, hx⟩
  · simp at h0
    subst h0
    exact ⟨[], NdR.row_nil _ _ _ _, by simp [okRow]⟩
  · simp at hcs
    subst hcs
    simp at hmm
    subst hmm
    have each : ∀ i, i < len → ∃ q : Nd × Value, (∀ j, j < 4 → W.cell? (ad.add (i * 4 + j)) = (ndC q)[j]?) ∧ NdR.rsub W W.heap.size q ∧ okNd (NdR.log q) := by
      intro i hi
      obtain ⟨cs', h1, h2⟩ := hx i (by omega)
      rw [Tryz.cellsNd] at h1
      obtain ⟨_, hlen, hcell⟩ := World.cells?_some h1
      obtain ⟨q, rfl, hs, hk⟩ := open_nd1 h2
      refine ⟨q, fun j hj => ?_, hs, hk⟩
      have c := hcell j hj
      rw [Deep.add_add] at c
      exact c
    obtain ⟨f, hf⟩ := @Deep.choose_lt (Nd × Value) ⟨ndZ⟩ _ _ each
    refine ⟨((List.range len).map f).map NdR.log, ⟨_, rfl, rowR_of f hl (by decide) NdR.len (fun i hi j hj => (hf i hi).1 j hj), ?_⟩, ?_, ?_⟩
    · intro p hp
      obtain ⟨i, hi, rfl⟩ := List.mem_map.mp hp
      exact (hf i (by simpa using hi)).2.1
    · simp
      unfold maxLen at hm
      omega
    · intro x hx
      obtain ⟨p, hp, rfl⟩ := List.mem_map.mp hx
      obtain ⟨i, hi, rfl⟩ := List.mem_map.mp hp
      exact (hf i (by simpa using hi)).2.2

end Go.Proofs.YtbanmldmdoedkaaGreatDoor

namespace Go.Proofs.YtbanmldmdoedkaaGreatDoor
open Go.RowKit

/-- A program that is read. -/
def RowPg (w : World) (B : Nat) (v0 v1 : Value) (p : Pg) : Prop := NdR.Row w B v0 p.nodes ∧ FcR.Row w B v1 p.fns
theorem RowPg.keep {w w' : World} {B : Nat} {v0 v1 : Value} {p : Pg} (h : RowPg w B v0 v1 p) (hb : Below B w w') : RowPg w' B v0 v1 p := ⟨h.1.keep hb, h.2.keep hb⟩
theorem RowPg.up {w : World} {B B' : Nat} {v0 v1 : Value} {p : Pg} (h : RowPg w B v0 v1 p) (hB : B ≤ B') : RowPg w B' v0 v1 p := ⟨h.1.up hB, h.2.up hB⟩
/-- A program that the call owns, in blocks B .. H. -/
def OwnPg (w : World) (B H : Nat) (v0 v1 : Value) (p : Pg) : Prop := ∃ M, B ≤ M ∧ M ≤ H ∧ NdR.Own w B M v0 p.nodes ∧ FcR.Own w M H v1 p.fns
theorem OwnPg.row {w : World} {B H : Nat} {v0 v1 : Value} {p : Pg} (h : OwnPg w B H v0 v1 p) : RowPg w H v0 v1 p := by
  obtain ⟨M, h1, h2, h3, h4⟩ := h
  exact ⟨h3.row.up h2, h4.row⟩
theorem OwnPg.same {w w' : World} {B H : Nat} {v0 v1 : Value} {p : Pg} (h : OwnPg w B H v0 v1 p) (hs : ∀ g, B ≤ g → g < H → w'.heap[g]? = w.heap[g]?) : OwnPg w' B H v0 v1 p := by
  obtain ⟨M, h1, h2, h3, h4⟩ := h
  exact ⟨M, h1, h2, h3.same (fun g a b => hs g a (by omega)), h4.same (fun g a b => hs g (by omega) b)⟩

theorem le_szPg_nodes (p : Pg) : szRow szNd p.nodes ≤ szPg p := Nat.le_add_right _ _
theorem le_szPg_fns (p : Pg) : szRow szFc p.fns ≤ szPg p := Nat.le_add_left _ _

set_option maxRecDepth 100000 in
set_option maxHeartbeats 1600000 in
theorem eqProgram_same (B : Nat) (p : Pg) (a0 a1 b0 b1 : Value) (w : World) (hB : B ≤ w.heap.size) (ha : RowPg w B a0 a1 p) (hb : RowPg w B b0 b1 p) (hl : szPg p ≤ 1048576) :
    Calls Tryz.prog 23 #[.agg #[a0, a1], .agg #[b0, b1]] w fun e w' => e = .returned (.bool true) ∧ Below w.heap.size w w' := by
  have cE0 : Hid (∀ W, Below w.heap.size w W → Calls Tryz.prog 59 #[a0, b0] W fun e w' => e = .returned (.bool true) ∧ Below W.heap.size W w') := fun W hW =>
    eqNodeS_same B _ _ p.nodes W (Nat.le_trans hB hW.size) (ha.1.keep (hW.mono hB)) (hb.1.keep (hW.mono hB)) (Nat.le_trans (le_szPg_nodes p) hl)
  have cE1 : Hid (∀ W, Below w.heap.size w W → Calls Tryz.prog 60 #[a1, b1] W fun e w' => e = .returned (.bool true) ∧ Below W.heap.size W w') := fun W hW =>
    eqFnS_same B _ _ p.fns W (Nat.le_trans hB hW.size) (ha.2.keep (hW.mono hB)) (hb.2.keep (hW.mono hB)) (Nat.le_trans (le_szPg_fns p) hl)
  clear ha hb hl
  go_enter Tryz.func23, Tryz.ntmps23
  go_wp2_with fail
  go_at_call 59
  refine Calls.mono (cE0.out _ (by go_grown)) ?_
  rintro e w1 ⟨rfl, hb⟩
  have HB1 : Hid (Below w.heap.size w w1) := by
    refine Below.trans ?_ (hb.mono ?_)
    · go_grown
    · simp; omega
  have x1 : w1.cell? ⟨w.heap.size, 1, none⟩ = some a1 := (hb.cell (p := ⟨w.heap.size, 1, none⟩) (by show _ < _; first | (simp; done) | (simp; omega))).trans (by simp)
  have y1 : w1.cell? ⟨w.heap.size + 1, 1, none⟩ = some b1 := (hb.cell (p := ⟨w.heap.size + 1, 1, none⟩) (by show _ < _; first | (simp; done) | (simp; omega))).trans (by simp)
  clear hb cE0
  go_wp2_with fail
  go_at_call 60
  refine Calls.mono (cE1.out _ HB1.out) ?_
  rintro e w2 ⟨rfl, hb⟩
  have HB2 : Hid (Below w.heap.size w w2) := HB1.out.trans (hb.mono HB1.out.size)
  clear hb cE1
  go_wp2
  go_ret
  exact ⟨rfl, HB2.out⟩

set_option maxRecDepth 100000 in
set_option maxHeartbeats 1600000 in
theorem szProgram_sum (B : Nat) (p : Pg) (a0 a1 : Value) (left : Int) (w : World) (hB : B ≤ w.heap.size) (ha : RowPg w B a0 a1 p) (hok : okPg p) (h0 : 0 ≤ left) (h1 : left ≤ 1048576) :
    Calls Tryz.prog 19 #[.agg #[a0, a1], .int .i64 left] w fun e w' => (∃ r : Int, e = .returned (.int .i64 r) ∧ (r = -1 ∨ (0 ≤ r ∧ r + (szPg p : Int) = left))) ∧ Below w.heap.size w w' := by
  have cS0 : Hid (∀ W l, 0 ≤ l → l ≤ 1048576 → Below w.heap.size w W → Calls Tryz.prog 51 #[a0, .int .i64 l] W fun e w' => (∃ r : Int, e = .returned (.int .i64 r) ∧ (r = -1 ∨ (0 ≤ r ∧ r + (szRow szNd p.nodes : Int) = l))) ∧ Below W.heap.size W w') := fun W l hl0 hl1 hW =>
    szNodeS_sum B _ p.nodes l W (Nat.le_trans hB hW.size) (ha.1.keep (hW.mono hB)) hok.1 hl0 hl1
  have cS1 : Hid (∀ W l, 0 ≤ l → l ≤ 1048576 → Below w.heap.size w W → Calls Tryz.prog 52 #[a1, .int .i64 l] W fun e w' => (∃ r : Int, e = .returned (.int .i64 r) ∧ (r = -1 ∨ (0 ≤ r ∧ r + (szRow szFc p.fns : Int) = l))) ∧ Below W.heap.size W w') := fun W l hl0 hl1 hW =>
    szFnS_sum B _ p.fns l W (Nat.le_trans hB hW.size) (ha.2.keep (hW.mono hB)) hok.2 hl0 hl1
  have HZ : Hid ((szPg p : Int) = (szRow szNd p.nodes : Int) + (szRow szFc p.fns : Int)) := by
    show (_ : Int) = _
    unfold szPg
    push_cast
    rfl
  obtain ⟨z0, hz0⟩ : ∃ z : Nat, Hid (szRow szNd p.nodes = z) := ⟨_, (rfl : szRow szNd p.nodes = szRow szNd p.nodes)⟩
  obtain ⟨z1, hz1⟩ : ∃ z : Nat, Hid (szRow szFc p.fns = z) := ⟨_, (rfl : szRow szFc p.fns = szRow szFc p.fns)⟩
  rw [hz0.out] at cS0 HZ
  rw [hz1.out] at cS1 HZ
  rw [HZ.out]
  clear HZ hok ha hz0 hz1
  go_enter Tryz.func19, Tryz.ntmps19
  go_wp2_with fail
  go_at_call 51
  refine Calls.mono (cS0.out _ left h0 h1 (by go_grown)) ?_
  rintro e w1 ⟨⟨r1, rfl, hr1⟩, hb⟩
  have HB1 : Hid (Below w.heap.size w w1) := by
    refine Below.trans ?_ (hb.mono ?_)
    · go_grown
    · simp
  have x1 : w1.cell? ⟨w.heap.size, 1, none⟩ = some a1 := (hb.cell (p := ⟨w.heap.size, 1, none⟩) (by show _ < _; first | (simp; done) | (simp; omega))).trans (by simp)
  clear hb cS0
  rcases hr1 with rfl | ⟨hr1a, hr1b⟩
  · go_wp2
    go_ret
    exact ⟨⟨_, rfl, .inl rfl⟩, HB1.out⟩
  have hr1n : ¬ r1 < 0 := by omega
  go_wp2_with fail
  go_at_call 52
  refine Calls.mono (cS1.out _ r1 hr1a (by omega) HB1.out) ?_
  rintro e w2 ⟨⟨r2, rfl, hr2⟩, hb⟩
  have HB2 : Hid (Below w.heap.size w w2) := HB1.out.trans (hb.mono HB1.out.size)
  clear hb cS1
  rcases hr2 with rfl | ⟨hr2a, hr2b⟩
  · go_wp2
    go_ret
    exact ⟨⟨_, rfl, .inl rfl⟩, HB2.out⟩
  have hr2n : ¬ r2 < 0 := by omega
  go_wp2
  go_ret
  exact ⟨⟨_, rfl, .inr ⟨by omega, by omega⟩⟩, HB2.out⟩

set_option maxRecDepth 100000 in
set_option maxHeartbeats 1600000 in
theorem toProgram_any (B : Nat) (p : Pg) (a0 a1 : Value) (w : World) (hB : B ≤ w.heap.size) (ha : RowPg w B a0 a1 p) (hl : szPg p ≤ 1048576) :
    Calls Tryz.prog 21 #[.agg #[a0, a1]] w fun e w' => ∃ g c g' c', e = .returned (.agg #[.slice (some ⟨g, 0, none⟩) p.nodes.length c, .slice (some ⟨g', 0, none⟩) p.fns.length c']) ∧ OwnPg w' w.heap.size w'.heap.size (.slice (some ⟨g, 0, none⟩) p.nodes.length c) (.slice (some ⟨g', 0, none⟩) p.fns.length c') p ∧ Below w.heap.size w w' := by
  have cT0 : Hid (∀ W, Below w.heap.size w W → Calls Tryz.prog 54 #[a0] W fun e w' => ∃ g cap, e = .returned (.slice (some ⟨g, 0, none⟩) p.nodes.length cap) ∧ NdR.Own w' W.heap.size w'.heap.size (.slice (some ⟨g, 0, none⟩) p.nodes.length cap) p.nodes ∧ Below W.heap.size W w') := fun W hW =>
    toNodeS_any B _ p.nodes W (Nat.le_trans hB hW.size) (ha.1.keep (hW.mono hB)) (Nat.le_trans (le_szPg_nodes p) hl)
  have cT1 : Hid (∀ W, Below w.heap.size w W → Calls Tryz.prog 55 #[a1] W fun e w' => ∃ g cap, e = .returned (.slice (some ⟨g, 0, none⟩) p.fns.length cap) ∧ FcR.Own w' W.heap.size w'.heap.size (.slice (some ⟨g, 0, none⟩) p.fns.length cap) p.fns ∧ Below W.heap.size W w') := fun W hW =>
    toFnS_any B _ p.fns W (Nat.le_trans hB hW.size) (ha.2.keep (hW.mono hB)) (Nat.le_trans (le_szPg_fns p) hl)
  obtain ⟨N0, H0⟩ : ∃ K, Hid (p.nodes.length = K) := ⟨_, (rfl : p.nodes.length = p.nodes.length)⟩
  obtain ⟨N1, H1⟩ : ∃ K, Hid (p.fns.length = K) := ⟨_, (rfl : p.fns.length = p.fns.length)⟩
  rw [H0.out] at cT0 ⊢
  rw [H1.out] at cT1 ⊢
  clear ha hl
  go_enter Tryz.func21, Tryz.ntmps21
  go_wp2_with fail
  go_at_call 54
  refine Calls.mono (cT0.out _ (by go_grown)) ?_
  rintro e w1 ⟨g, c, rfl, ho, hb1⟩
  have hO := (hb1.block (w.heap.size + 2) (by first | (simp; done) | (simp; omega))).trans (third_new w _ _ _)
  have hR := (hb1.block (w.heap.size + 1) (by first | (simp; done) | (simp; omega))).trans (second_new w _ _ _)
  have hA := (hb1.block w.heap.size (by first | (simp; done) | (simp; omega))).trans (first_new w _ _ _)
  have HO1 : Hid (NdR.Own w1 (w.heap.size + 3) w1.heap.size (.slice (some ⟨g, 0, none⟩) N0 c) p.nodes) := ho.wide (by simp) (Nat.le_refl _)
  have HB1 : Hid (Below w.heap.size w w1) := by
    refine Below.trans ?_ (hb1.mono ?_)
    · go_grown
    · simp; omega
  have hz1 : w.heap.size + 3 ≤ w1.heap.size := by have := hb1.size; simp at this; omega
  have a1' := cell_at hA 1
  have o0 := cell_at hO 0
  have p0 := free_at hO 0
  simp at a1' o0
  clear ho hb1 cT0
  have HO : Hid _ := hO
  have HR : Hid _ := hR
  clear hO hR hA
  go_wp2_with fail
  go_at_call 55
  refine Calls.mono (cT1.out _ (HB1.out.setCell (p := ⟨w.heap.size + 2, 0, none⟩) (by show _ ≤ _; simp) _)) ?_
  rintro e w2 ⟨g', c', rfl, ho, hb2⟩
  have hzz : (w1.setCell ⟨w.heap.size + 2, 0, none⟩ (.slice (some ⟨g, 0, none⟩) N0 c)).heap.size = w1.heap.size := by simp
  rw [hzz] at ho hb2
  have hO : w2.heap[w.heap.size + 2]? = some (.cells #[.slice (some ⟨g, 0, none⟩) N0 c, .slice none 0 0] 27 (0, 0)) := (hb2.block _ (by omega)).trans (by have := HO.out; simp [World.setCell, Array.getElem?_modify, this])
  have hR : w2.heap[w.heap.size + 1]? = some (.cells #[.slice none 0 0, .slice none 0 0] 27 (0, 0)) := (hb2.block _ (by omega)).trans ((kept_set (by omega)).trans HR.out)
  have HN1 : Hid (NdR.Own w2 (w.heap.size + 3) w1.heap.size (.slice (some ⟨g, 0, none⟩) N0 c) p.nodes) := HO1.out.same (fun x hx1 hx2 => (hb2.block x hx2).trans (kept_set (by omega)))
  have HN2 : Hid (FcR.Own w2 w1.heap.size w2.heap.size (.slice (some ⟨g', 0, none⟩) N1 c') p.fns) := ho
  have HB2 : Hid (Below w.heap.size w w2) := (HB1.out.setCell (p := ⟨w.heap.size + 2, 0, none⟩) (by show _ ≤ _; simp) _).trans (hb2.mono (by omega))
  have hz2 : w1.heap.size ≤ w2.heap.size := by have := hb2.size; simp at this; omega
  have q0 := cell_at hO 0
  have q1 := cell_at hO 1
  have p1 := free_at hO 1
  have r0 := cell_at hR 0
  have r1 := cell_at hR 1
  have f0 := free_at hR 0
  have f1 := free_at hR 1
  have HE : Hid (∀ u v0 v1, (((w2.setCell ⟨w.heap.size + 2, 1, none⟩ u).setCell ⟨w.heap.size + 1, 0, none⟩ v0).setCell ⟨w.heap.size + 1, 1, none⟩ v1).heap[w.heap.size + 1]? = some (.cells #[v0, v1] 27 (0, 0))) := fun u v0 v1 => by
    simp [World.setCell, Array.getElem?_modify, hR]
  have HN : Hid (∀ u v0 v1 x, x ≠ w.heap.size + 1 → x ≠ w.heap.size + 2 → (((w2.setCell ⟨w.heap.size + 2, 1, none⟩ u).setCell ⟨w.heap.size + 1, 0, none⟩ v0).setCell ⟨w.heap.size + 1, 1, none⟩ v1).heap[x]? = w2.heap[x]?) := fun u v0 v1 x h1 h2 => by
    simp only [kept_set h1, kept_set h2]
  simp at q0 q1 r0 r1
  clear ho hb2 hO hR cT1 HO HR HO1 HB1 o0 p0 a1' hzz
  go_wp2
  have e0 := fun u v0 v1 => cell_at (HE.out u v0 v1) 0
  have e1 := fun u v0 v1 => cell_at (HE.out u v0 v1) 1
  simp at e0 e1
  refine bodyPost_ret (by simp [results, Tryz.results21, go_sem, e0, e1]; try rfl) rfl ?_
  refine ⟨g, c, g', c', rfl, ⟨w1.heap.size, by omega, by simp; omega, ?_, ?_⟩, ?_⟩
  · exact (HN1.out.same (fun x hx1 hx2 => HN.out _ _ _ x (by omega) (by omega))).wide (by omega) (Nat.le_refl _)
  · exact (HN2.out.same (fun x hx1 hx2 => HN.out _ _ _ x (by omega) (by omega))).wide (Nat.le_refl _) (by simp)
  · have h1 := HB2.out
    go_grown

end Go.Proofs.YtbanmldmdoedkaaGreatDoor

namespace Go.Proofs.YtbanmldmdoedkaaGreatDoor
open Go.RowKit

theorem Tryz.structPg : ∃ f0 f1 : Field, Tryz.prog.underlying 43 = some (.struct #[f0, f1]) ∧ f0.offset = 0 ∧ f1.offset = 1 ∧ f0.type = 40 ∧ f1.type = 41 := ⟨_, _, Tryz.underlying43, rfl, rfl, rfl, rfl⟩
theorem Tryz.cellsPg : Tryz.prog.cellsOf 43 = 2 := by kernel_rfl
theorem open_pg {H : Type} {enc : TypeId × Value → H} {W : World} {fuel : Nat} {cs : Array Value} {x : DataW H × List MemPlace}
    (h : DataW.trod enc Tryz.prog W 0 (fun _ => true) true fuel 43 (Value.agg cs).cells.toList = some x) :
    ∃ v0 v1 p, cs = #[v0, v1] ∧ RowPg W W.heap.size v0 v1 p ∧ okPg p := by
  obtain ⟨f0, f1, hst, o0, o1, t0, t1⟩ := Tryz.structPg
  obtain ⟨xs, k, _, _, hlen, hxl, hf⟩ := DataW.trod_struct hst h
  rw [Tryz.cellsPg] at hlen
  have hxl' : xs.length = 2 := hxl
  obtain ⟨y0, y1, rfl⟩ := len_pm hxl'
  obtain ⟨v0, v1, hv⟩ := len_pm hlen
  have hcs : cs = #[v0, v1] := by
    have : cs.toList = [v0, v1] := hv
    rw [← this]
  subst hcs
  have g0 := hf 0 f0 rfl
  rw [o0, t0, Tryz.cellsNds, hv] at g0
  have g1 := hf 1 f1 rfl
  rw [o1, t1, Tryz.cellsFcs, hv] at g1
  simp at g0 g1
  obtain ⟨z0, r0, k0⟩ := open_nds g0
  obtain ⟨z1, r1, k1⟩ := open_fcs g1
  exact ⟨v0, v1, ⟨z0, z1⟩, rfl, ⟨r0, r1⟩, k0, k1⟩

end Go.Proofs.YtbanmldmdoedkaaGreatDoor
