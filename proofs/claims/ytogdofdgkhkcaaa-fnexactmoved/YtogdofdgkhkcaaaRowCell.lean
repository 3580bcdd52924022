/-
  What the laws' helpers answer of rows of Cell: held against each other, measured, copied, marked. Written by mkrow.py.
-/
import Derived.Test.YtogdofdgkhkcaaaRa
import Derived.Test.YtogdofdgkhkcaaaPlain43
import Derived.Test.YtogdofdgkhkcaaaKa
import Derived.Handy
import Derived.BigQuiet
import Derived.Deep.QuietTactic
import Derived.Deep.RegionHeld3
namespace Go.Proofs.Ytogdofdgkhkcaaa
open Go.RowKit

def ceC (p : Ce) : List Value := [.bool p.live, .int .i64 p.num]
/-- Rows of Cell. -/
def CeR : RowTy (Ce) Ce where
  enc := ceC
  k := 2
  T := 92
  sub := fun w B p => True
  rsub := fun w B p => True
  vals := fun p => []
  log := id
  len := fun _ => rfl
  sub_same := fun _ _ => trivial
  sub_base := fun _ _ => trivial
  sub_lt := fun _ g hg => by simp [fps] at hg
  sub_read := fun _ _ => trivial
  rsub_keep := fun _ _ => trivial
  rsub_up := fun _ _ => trivial
theorem CeR.at {w : World} {B : Nat} {a : Option Addr} {n cap : Nat} {xs : List Ce} (h : CeR.Row w B (.slice a n cap) xs) (i : Nat) (hi : i < xs.length) :
    ∃ b off, a = some ⟨b, off, none⟩ ∧ b < B ∧ w.cell? ⟨b, off + i * 2, none⟩ = some (.bool xs[i].live) ∧ w.cell? ⟨b, off + i * 2 + 1, none⟩ = some (.int .i64 xs[i].num) := by
  obtain ⟨b, off, p, ha, hb, hp, hk, hc⟩ := RowTy.Row.at h i hi
  obtain rfl : p = xs[i] := hp
  exact ⟨b, off, ha, hb, hc 0 (by decide), hc 1 (by decide)⟩

set_option maxRecDepth 100000 in
set_option maxHeartbeats 1600000 in
theorem eqCell_same (B : Nat) (q : Ce)  (w : World) (_hB : B ≤ w.heap.size)  (_hl : szCe q ≤ 1048576) :
    Calls Try.prog 109 #[.agg #[.bool q.live, .int .i64 q.num], .agg #[.bool q.live, .int .i64 q.num]] w fun e w' => e = .returned (.bool true) ∧ Below w.heap.size w w' := by
  obtain ⟨live, num⟩ := q
  simp only
  go_enter Try.func109, Try.ntmps109
  go_wp2
  go_ret
  exact ⟨rfl, by go_grown⟩

set_option maxRecDepth 100000 in
set_option maxHeartbeats 1600000 in
theorem eqCellS_same (B : Nat) (va vb : Value) (xs : List Ce) (w : World) (hB : B ≤ w.heap.size) (ha : CeR.Row w B va xs) (hb : CeR.Row w B vb xs) (hl : szRow szCe xs ≤ 1048576) :
    Calls Try.prog 93 #[va, vb] w fun e w' => e = .returned (.bool true) ∧ Below w.heap.size w w' := by
  obtain ⟨a, ca, rfl⟩ := ha.len
  obtain ⟨b, cb, rfl⟩ := hb.len
  obtain ⟨N, HN⟩ : ∃ N, Hid (xs.length = N) := ⟨_, (rfl : xs.length = xs.length)⟩
  have H : Hid (CeR.Row w B (.slice a N ca) xs ∧ CeR.Row w B (.slice b N cb) xs) := by rw [← HN.out]; exact ⟨ha, hb⟩
  have HS : Hid (szRow szCe xs ≤ 1048576) := hl
  have hN : N ≤ 1048576 := by have := len_szRow szCe xs; have := HN.out; omega
  rw [HN.out]
  clear ha hb hl
  go_enter Try.func93, Try.ntmps93
  go_wp2
  go_loopw [5] (fun i wr => ∃ k : Nat, k ≤ N ∧ i = .int .i64 (k : Int) ∧ Below w.heap.size w wr) (fun i _ => N - (intOf i).toNat)
  case atStart => exact ⟨0, Nat.zero_le _, rfl, Below.refl _ _⟩
  case round =>
    obtain ⟨k, hk, rfl, hbw⟩ := hrel
    by_cases hlt : k < N
    · have hk1 : (k : Int) < (N : Int) := by omega
      have hk0 : (0 : Int) ≤ (k : Int) := by omega
      have hkl : k < xs.length := by have := HN.out; omega
      obtain ⟨ba, oa, rfl, hba, c0, c1⟩ := CeR.at H.out.1 k hkl
      obtain ⟨bb, ob, rfl, hbb, e0, e1⟩ := CeR.at H.out.2 k hkl
      have hq : szCe xs[k] ≤ 1048576 := Nat.le_trans (mem_szRow szCe (List.getElem_mem hkl)) HS.out
      obtain ⟨q, hqe⟩ : ∃ q, Hid (xs[k] = q) := ⟨_, (rfl : xs[k] = xs[k])⟩
      rw [hqe.out] at c0 c1 e0 e1 hq
      have cQ : Hid (∀ W, Below w.heap.size w W → Calls Try.prog 109 #[.agg #[.bool q.live, .int .i64 q.num], .agg #[.bool q.live, .int .i64 q.num]] W fun e w' => e = .returned (.bool true) ∧ Below W.heap.size W w') := fun W hW =>
        eqCell_same B q W (Nat.le_trans hB hW.size) hq
      obtain ⟨live, num⟩ := q
      simp only at c0 c1 e0 e1 cQ
      clear hq
      have hba1 : ba < wr.heap.size := by have := hbw.size; omega
      have hbb1 : bb < wr.heap.size := by have := hbw.size; omega
      have d0 := (hbw.cell (p := ⟨ba, oa + k * 2, none⟩) (by show ba < _; omega)).trans c0
      have f0 := (hbw.cell (p := ⟨bb, ob + k * 2, none⟩) (by show bb < _; omega)).trans e0
      have d1 := (hbw.cell (p := ⟨ba, oa + k * 2 + 1, none⟩) (by show ba < _; omega)).trans c1
      have f1 := (hbw.cell (p := ⟨bb, ob + k * 2 + 1, none⟩) (by show bb < _; omega)).trans e1
      clear c0 c1 e0 e1
      go_wp2_with fail
      go_region_held3 (fun w' => (w'.cell? ⟨ba, oa + k * 2, none⟩ = some (.bool live) ∧ w'.cell? ⟨ba, oa + k * 2 + 1, none⟩ = some (.int .i64 num)) ∧ (w'.cell? ⟨bb, ob + k * 2, none⟩ = some (.bool live) ∧ w'.cell? ⟨bb, ob + k * 2 + 1, none⟩ = some (.int .i64 num))) (first | exact ⟨⟨d0, d1⟩, ⟨f0, f1⟩⟩ | exact ⟨⟨(hb1.cell (p := ⟨ba, oa + k * 2, none⟩) hba1).trans d0, (hb1.cell (p := ⟨ba, oa + k * 2 + 1, none⟩) hba1).trans d1⟩, ⟨(hb1.cell (p := ⟨bb, ob + k * 2, none⟩) hbb1).trans f0, (hb1.cell (p := ⟨bb, ob + k * 2 + 1, none⟩) hbb1).trans f1⟩⟩) ((go_at_call 109; refine Calls.mono (cQ.out _ hbw.drew) ?_; rintro e w1 ⟨rfl, hb1⟩))
      all_goals
        go_wp2
        go_roundw
        case rel => exact ⟨k + 1, by omega, by go_num, hbw.drew.trans (hb1.mono hbw.size)⟩
        case measure => simp [intOf]; omega
    · go_wp2
      go_ret
      exact ⟨rfl, hbw⟩

theorem szCellS_sum (B : Nat) (v : Value) (xs : List Ce) (left : Int) (w : World) (_hB : B ≤ w.heap.size) (hv : CeR.Row w B v xs) (hok : okRow okCe xs) (h0 : 0 ≤ left) (h1 : left ≤ 1048576) :
    Calls Try.prog 97 #[v, .int .i64 left] w fun e w' => (∃ r : Int, e = .returned (.int .i64 r) ∧ (r = -1 ∨ (0 ≤ r ∧ r + (szRow szCe xs : Int) = left))) ∧ Below w.heap.size w w' := by
  obtain ⟨a, cap, rfl⟩ := hv.len
  rw [szRowCe_len]
  have hok := hok.1
  obtain ⟨n, HN⟩ : ∃ N, Hid (xs.length = N) := ⟨_, (rfl : xs.length = xs.length)⟩
  rw [HN.out] at hok ⊢
  clear hv
  by_cases h : left - (n : Int) < 0
  · go_enter Try.func97, Try.ntmps97
    go_wp2
    go_ret
    exact ⟨⟨_, rfl, .inl rfl⟩, Below.refl _ _⟩
  · go_enter Try.func97, Try.ntmps97
    go_wp2
    go_ret
    exact ⟨⟨_, rfl, .inr ⟨by omega, by omega⟩⟩, Below.refl _ _⟩

theorem toCell_any (q : Ce) (w : World) :
    Calls Try.prog 110 #[.agg #[.bool q.live, .int .i64 q.num]] w fun e w' => e = .returned (.agg #[.bool q.live, .int .i64 q.num]) ∧ Below w.heap.size w w' := by
  obtain ⟨live, num⟩ := q
  simp only
  go_enter Try.func110, Try.ntmps110
  go_wp2
  go_returns
  exact ⟨rfl, by go_grown⟩

theorem CeR_phys {w : World} {B H : Nat} {v : Value} {xs : List Ce} (h : CeR.Own w B H v xs) : CeR.Phys w B v xs := by
  obtain ⟨ps, hl, hp, _⟩ := h
  obtain rfl : ps = xs := by rw [← hl]; exact (List.map_id ps).symm
  exact hp

theorem Try.infoCe : (Try.prog.info? 92).map (fun i => (i.zero, i.size, i.bytes)) = some (some (.agg #[.bool false, .int .i64 0]), 2, 16) := by kernel_rfl
def ceZ : Ce := ⟨false, 0⟩

set_option maxRecDepth 100000 in
set_option maxHeartbeats 1600000 in
theorem toCellS_any (B : Nat) (v : Value) (xs : List Ce) (w : World) (hB : B ≤ w.heap.size) (hv : CeR.Row w B v xs) (hl : szRow szCe xs ≤ 1048576) :
    Calls Try.prog 99 #[v] w fun e w' => ∃ g cap, e = .returned (.slice (some ⟨g, 0, none⟩) xs.length cap) ∧ CeR.Own w' w.heap.size w'.heap.size (.slice (some ⟨g, 0, none⟩) xs.length cap) xs ∧ Below w.heap.size w w' := by
  obtain ⟨a, cap, rfl⟩ := hv.len
  obtain ⟨N, HN⟩ : ∃ N, Hid (xs.length = N) := ⟨_, (rfl : xs.length = xs.length)⟩
  have H : Hid (CeR.Row w B (.slice a N cap) xs) := by rw [← HN.out]; exact hv
  have HS : Hid (szRow szCe xs ≤ 1048576) := hl
  have hN : N ≤ 1048576 := by have := len_szRow szCe xs; have := HN.out; omega
  rw [HN.out]
  clear hv hl
  obtain ⟨i0, hi, hz0, hz1, hz2⟩ := info_parts Try.infoCe
  go_enter Try.func99, Try.ntmps99
  go_wp2_with (at_make; refine wpList_make_full _ rfl _ _ 24 rfl w.heap.size 92 i0 _ 2 Try.underlying24 hi hz0 hz1 _ _ _ _ N rfl rfl (by omega) (by omega) (by rw [hz2]; omega) (by unfold maxLen; omega) (Nat.le_refl _) ?_; intro w0 hown0 hg0)
  clear hi hz0 hz1 hz2
  go_loopw [4] (fun i wr => ∃ k : Nat, k ≤ N ∧ i = .int .i64 (k : Int) ∧ Hid (Made CeR w wr N ceZ xs k) ∧ Below w.heap.size w wr) (fun i _ => N - (intOf i).toNat)
  case atStart =>
    refine ⟨0, Nat.zero_le _, rfl, ?_, (Below.refl _ _).grown hg0 (Nat.le_refl _) (fun k hk => by cases hk)⟩
    show Made _ _ _ _ _ _ _
    refine Made.start xs ?_
    unfold OwnsR
    have hzc := zero_cells (enc := CeR.enc) (k := CeR.k) ceZ (.agg #[.bool false, .int .i64 0]) CeR.len (by decide) (by simp [Value.cells, CeR, ceC, ceZ]) N
    rw [List.length_replicate, ← hzc]
    exact hown0
  case round =>
    obtain ⟨k, hk, rfl, HM, hbw⟩ := hrel
    clear hown0 hg0
    by_cases hlt : k < N
    · have hk1 : (k : Int) < (N : Int) := by omega
      have hk0 : (0 : Int) ≤ (k : Int) := by omega
      have hkl : k < xs.length := by have := HN.out; omega
      obtain ⟨ba, oa, rfl, hba, c0, c1⟩ := CeR.at H.out k hkl
      have hq : szCe xs[k] ≤ 1048576 := Nat.le_trans (mem_szRow szCe (List.getElem_mem hkl)) HS.out
      obtain ⟨q, hqe⟩ : ∃ q, Hid (xs[k] = q) := ⟨_, (rfl : xs[k] = xs[k])⟩
      rw [hqe.out] at c0 c1 hq
      have d0 := (hbw.cell (p := ⟨ba, oa + k * 2, none⟩) (by show ba < _; omega)).trans c0
      have d1 := (hbw.cell (p := ⟨ba, oa + k * 2 + 1, none⟩) (by show ba < _; omega)).trans c1
      have cT : Hid (∀ W, Below w.heap.size w W → Calls Try.prog 110 #[.agg #[.bool q.live, .int .i64 q.num]] W fun e w' => e = .returned (.agg #[.bool q.live, .int .i64 q.num]) ∧ Below W.heap.size W w') := fun W _ => toCell_any q W
      clear c0 c1 hq
      go_wp2_with fail
      go_at_call 110
      refine Calls.mono (cT.out _ hbw) ?_
      rintro e w1 ⟨rfl, hb1⟩
      have S : Hid (Made CeR w (putCells w1 w.heap.size (k * 2) (ceC q)) N ceZ xs (k + 1)) := Made.step HM.out HN.out hlt hb1 q hqe.out.symm trivial (by simp [CeR, fps])
      obtain ⟨hc, hf⟩ := Made.cells HM.out HN.out hlt hb1
      have z0 : w1.cell? ⟨w.heap.size, k * 2, none⟩ = some (.bool false) := hc 0 (by decide)
      have f0 : w1.frozen? ⟨w.heap.size, k * 2, none⟩ = false := hf _
      have z1 : w1.cell? ⟨w.heap.size, k * 2 + 1, none⟩ = some (.int .i64 0) := hc 1 (by decide)
      have f1 : w1.frozen? ⟨w.heap.size, k * 2 + 1, none⟩ = false := hf _
      have HB1 : Hid (Below w.heap.size w w1) := hbw.trans (hb1.mono hbw.size)
      clear hc hf hb1 HM cT d0 d1
      go_wp2
      go_roundw
      case rel => exact ⟨k + 1, by omega, by go_num, S, putCells_below (Nat.le_refl _) (ceC q) _ _ _ HB1.out⟩
      case measure => simp [intOf]; omega
    · have hkN : Hid (k = N) := (by omega : k = N)
      have HF : Hid (CeR.Own wr w.heap.size wr.heap.size (.slice (some ⟨w.heap.size, 0, none⟩) N N) xs) := by
        have := HM.out
        rw [hkN.out] at this
        exact this.done HN.out
      go_wp2
      go_ret
      exact ⟨_, _, rfl, HF.out, hbw⟩

theorem Try.structCe : ∃ f0 f1 : Field, Try.prog.underlying 119 = some (.struct #[f0, f1]) ∧ f0.offset = 0 ∧ f1.offset = 1 ∧ f0.type = 4 ∧ f1.type = 3 := ⟨_, _, Try.underlying119, rfl, rfl, rfl, rfl⟩
theorem Try.cellsCe : Try.prog.cellsOf 119 = 2 := by kernel_rfl
theorem Try.cellsBool : Try.prog.cellsOf 4 = 1 := by kernel_rfl
theorem Try.cellsCes : Try.prog.cellsOf 56 = 1 := by kernel_rfl
theorem len_ce {γ : Type} {xs : List γ} (h : xs.length = 2) : ∃ x0 x1, xs = [x0, x1] := by
  match xs, h with
  | [x0, x1], _ => exact ⟨_, _, rfl⟩

/-- One Cell out of its cells. -/
theorem open_ce1 {H : Type} {enc : TypeId × Value → H} {W : World} {fuel : Nat} {cs : List Value} {x : DataW H × List MemPlace}
    (h : DataW.trod enc Try.prog W 0 (fun _ => true) true fuel 119 cs = some x) :
    ∃ q : Ce, cs = ceC q ∧ CeR.rsub W W.heap.size q ∧ okCe (CeR.log q) := by
  obtain ⟨f0, f1, hst, o0, o1, t0, t1⟩ := Try.structCe
  obtain ⟨xs, k, _, _, hlen, hxl, hf⟩ := DataW.trod_struct hst h
  rw [Try.cellsCe] at hlen
  have hxl' : xs.length = 2 := hxl
  obtain ⟨y0, y1, rfl⟩ := len_ce hxl'
  obtain ⟨v0, v1, rfl⟩ := len_ce hlen
  have g0 := hf 0 f0 rfl
  rw [o0, t0, Try.cellsBool] at g0
  have g1 := hf 1 f1 rfl
  rw [o1, t1, Try.cellsInt] at g1
  simp at g0 g1
  obtain ⟨z0, e0, _⟩ := DataW.trod_bool Try.underlying4 g0
  simp at e0
  subst e0
  obtain ⟨z1, e1, _, w1⟩ := DataW.trod_int Try.underlying3 g1
  simp at e1
  subst e1
  exact ⟨⟨z0, z1⟩, rfl, trivial, trivial⟩

theorem open_ces {H : Type} {enc : TypeId × Value → H} {W : World} {fuel : Nat} {v : Value} {x : DataW H × List MemPlace}
    (h : DataW.trod enc Try.prog W 0 (fun _ => true) true fuel 56 [v] = some x) :
    ∃ xs : List Ce, CeR.Row W W.heap.size v xs ∧ okRow okCe xs := by
  rcases Deep.open_slice Try.underlying56 h with ⟨h0, _⟩ | ⟨ad, len, cap, m, n, D, Pl, hcs, hb, hl, hm, hmm, _, hx⟩
  · simp at h0
    subst h0
    exact ⟨[], CeR.row_nil _ _ _ _, by simp [okRow]⟩
  · simp at hcs
    subst hcs
    simp at hmm
    subst hmm
    have each : ∀ i, i < len → ∃ q : Ce, (∀ j, j < 2 → W.cell? (ad.add (i * 2 + j)) = (ceC q)[j]?) ∧ CeR.rsub W W.heap.size q ∧ okCe (CeR.log q) := by
      intro i hi
      obtain ⟨cs', h1, h2⟩ := hx i (by omega)
      rw [Try.cellsCe] at h1
      obtain ⟨_, hlen, hcell⟩ := World.cells?_some h1
      obtain ⟨q, rfl, hs, hk⟩ := open_ce1 h2
      refine ⟨q, fun j hj => ?_, hs, hk⟩
      have c := hcell j hj
      rw [Deep.add_add] at c
      exact c
    obtain ⟨f, hf⟩ := @Deep.choose_lt (Ce) ⟨ceZ⟩ _ _ each
    refine ⟨((List.range len).map f).map CeR.log, ⟨_, rfl, rowR_of f hl (by decide) CeR.len (fun i hi j hj => (hf i hi).1 j hj), ?_⟩, ?_, ?_⟩
    · intro p hp
      obtain ⟨i, hi, rfl⟩ := List.mem_map.mp hp
      exact (hf i (by simpa using hi)).2.1
    · simp
      unfold maxLen at hm
      omega
    · intro x hx
      obtain ⟨p, hp, rfl⟩ := List.mem_map.mp hx
      obtain ⟨i, hi, rfl⟩ := List.mem_map.mp hp
      exact (hf i (by simpa using hi)).2.2

end Go.Proofs.Ytogdofdgkhkcaaa
