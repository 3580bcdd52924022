/-
  A struct that holds nodes and a strings.Builder: what its builder holds behind a write.
-/
import Derived.Test.YtbanmldmdoedkaaGreatDoorSgBuild
import Derived.RegionTactic
namespace Go.Proofs.YtbanmldmdoedkaaGreatDoor
open Go.RowKit

/-- A line writer in block b, a block from B on: its nodes, what its builder's address holds, its bytes. -/
def LwAt (B b : Nat) (nv p : Value) (l : List UInt8) (w : World) : Prop :=
  B ≤ b ∧ ∃ v, w.heap[b]? = some (.cells #[nv, p, v] 94 (0, 0)) ∧ w.ownsRow B 5 1 v (Lib.byteCells l).length (Lib.byteCells l)
/-- .. fresh or used. -/
def Lw (B b : Nat) (nv : Value) (l : List UInt8) (w : World) : Prop := LwAt B b nv (.pointer none) l w ∨ LwAt B b nv (.pointer (some ⟨b, 1, none⟩)) l w
/-- Blocks that are neither rows of bytes nor line writers stay as they were. -/
def KeepsW (w w' : World) : Prop := ∀ (k : Nat) (cs : Array Value) (T : TypeId) (fr : Nat × Nat), T ≠ 5 → T ≠ 94 → w.heap[k]? = some (Obj.cells cs T fr) → w'.heap[k]? = some (Obj.cells cs T fr)
theorem KeepsW.refl (w : World) : KeepsW w w := fun _ _ _ _ _ _ h => h
theorem KeepsW.trans {a b c : World} (h : KeepsW a b) (h' : KeepsW b c) : KeepsW a c := fun k cs T fr h1 h2 hk => h' k cs T fr h1 h2 (h k cs T fr h1 h2 hk)
theorem keepsW_below {w w' : World} (h : Below w.heap.size w w') : KeepsW w w' := fun k _ _ _ _ _ hk => (h.block k (Array.getElem?_eq_some_iff.1 hk).1).trans hk
theorem keepsW_set {w : World} {b : Nat} {cs : Array Value} {fr : Nat × Nat} (hb : w.heap[b]? = some (.cells cs 94 fr)) (j : Nat) (u : Value) : KeepsW w (w.setCell ⟨b, j, none⟩ u) := fun k _ _ _ _ hT hk => by
  have hne : k ≠ b := fun e => by
    subst e
    rw [hb] at hk
    simp only [Option.some.injEq, Obj.cells.injEq] at hk
    exact hT hk.2.1.symm
  exact (Below.heap_setCell _ _ _ _ hne).trans hk
theorem keepsW_grown {w w' : World} {B : Nat} {v : Value} {n : Nat} {xs : List Value} (hown : w.ownsRow B 5 1 v n xs) (hg : w.grownBy w' v.ownBlock) : KeepsW w w' := fun k _ _ _ h8 _ hk =>
  (hg.block k (Array.getElem?_eq_some_iff.1 hk).1 (fun e => Lib.ownBlock_ne hown hk h8 e.symm)).trans hk
/-- What a call that writes leaves. -/
def Wrote (B b : Nat) (nv : Value) (L : List UInt8) (w : World) (e : Ending) (w' : World) : Prop := e = .returned (.tuple #[]) ∧ Lw B b nv L w' ∧ Below B w w' ∧ KeepsW w w'

theorem LwAt.lt {B b : Nat} {nv p : Value} {l : List UInt8} {w : World} (h : LwAt B b nv p l w) : b < w.heap.size := by
  obtain ⟨_, v, hb, _⟩ := h
  exact (Array.getElem?_eq_some_iff.1 hb).1
theorem Lw.at {B b : Nat} {nv : Value} {l : List UInt8} {w : World} (h : Lw B b nv l w) : ∃ p, LwAt B b nv p l w := h.elim (fun h => ⟨_, h⟩) (fun h => ⟨_, h⟩)
theorem Lw.lt {B b : Nat} {nv : Value} {l : List UInt8} {w : World} (h : Lw B b nv l w) : b < w.heap.size := by
  obtain ⟨p, hp⟩ := h.at
  exact hp.lt
theorem Lw.ge {B b : Nat} {nv : Value} {l : List UInt8} {w : World} (h : Lw B b nv l w) : B ≤ b := by
  obtain ⟨p, hp⟩ := h.at
  exact hp.1
theorem Lw.nodes {B b : Nat} {nv : Value} {l : List UInt8} {w : World} (h : Lw B b nv l w) : w.cell? ⟨b, 0, none⟩ = some nv := by
  obtain ⟨p, _, v, hb, _⟩ := h.at
  exact Lib.cell_of_heap hb 0
theorem Lw.below {B b : Nat} {nv : Value} {l : List UInt8} {w w' : World} (h : Lw B b nv l w) (hb : Below w.heap.size w w') : Lw B b nv l w' := by
  have one : ∀ p, LwAt B b nv p l w → LwAt B b nv p l w' := fun p ⟨hB, v, hbk, hown⟩ =>
    ⟨hB, v, (hb.block b (Array.getElem?_eq_some_iff.1 hbk).1).trans hbk, hown.kept (grown_of_below hb) (Classical.em _)⟩
  exact h.imp (one _) (one _)
theorem Lw.alloc {B b : Nat} {nv : Value} {l : List UInt8} {w : World} (h : Lw B b nv l w) (o : Obj) : Lw B b nv l (w.alloc o) := h.below ((Below.refl _ _).alloc (Nat.le_refl _) _)
theorem Lw.fresh (w : World) (nv : Value) : Lw w.heap.size w.heap.size nv [] (w.alloc (.cells #[nv, .pointer none, .slice none 0 0] 94)) :=
  .inl ⟨Nat.le_refl _, .slice none 0 0, heap_alloc_new w _, ⟨by simp [Lib.byteCells], .inl ⟨rfl, rfl⟩⟩⟩

set_option maxRecDepth 100000 in
theorem lwCheck_used (b : Nat) (w : World) (h0 : w.cell? ⟨b, 1, none⟩ = some (.pointer (some ⟨b, 1, none⟩))) :
    Calls Tryz.prog 177 #[.pointer (some ⟨b, 1, none⟩)] w fun e w' => e = .returned (.tuple #[]) ∧ w' = w := by
  obtain ⟨j, hj, _⟩ := bInfo
  have hne := Lib.run_neq_ptr_same w (⟨b, 1, none⟩ : Addr) Tryz.underlying90 hj
  go_enter Tryz.func177, Tryz.ntmps177
  go_wp2
  go_returns
  exact ⟨rfl, rfl⟩

set_option maxRecDepth 100000 in
theorem lwCheck_fresh (b : Nat) (w : World) (h0 : w.cell? ⟨b, 1, none⟩ = some (.pointer none)) (hsh : w.shape? b = some (94, 3)) (hfz : w.frozen? ⟨b, 1, none⟩ = false) :
    Calls Tryz.prog 177 #[.pointer (some ⟨b, 1, none⟩)] w fun e w' => e = .returned (.tuple #[]) ∧ w' = w.setCell ⟨b, 1, none⟩ (.pointer (some ⟨b, 1, none⟩)) := by
  obtain ⟨j, hj, hjs⟩ := bInfo
  have hne := Lib.run_neq_ptr_same (w.setCell ⟨b, 1, none⟩ (.pointer (some ⟨b, 1, none⟩))) (⟨b, 1, none⟩ : Addr) Tryz.underlying90 hj
  have h1 := Lib.run_to_unsafe w ⟨b, 1, none⟩ Tryz.underlying90 Tryz.underlying207 hj (by rw [hjs]; decide) hsh (by show 1 < 3; omega)
  have h3 := Lib.run_from_unsafe w ⟨b, 1, none⟩ Tryz.underlying207 Tryz.underlying90 hj hsh (by kernel_rfl)
  go_enter Tryz.func177, Tryz.ntmps177
  go_wp2
  rw [run_callFunc_extern Tryz.func195 (by kernel_rfl) (by kernel_rfl) (by kernel_rfl) (e := Extern.AbiNoEscape.same) (by kernel_rfl), Lib.run_noEscape]
  simp only [Result.andThen]
  rw [Oper.upon_value]
  go_wp2
  go_returns
  exact ⟨rfl, rfl⟩

/-- Behind the check the builder is used; its bytes are as they were. -/
theorem lwCheck_any (B b : Nat) (nv : Value) (l : List UInt8) (w : World) (h : Lw B b nv l w) :
    Calls Tryz.prog 177 #[.pointer (some ⟨b, 1, none⟩)] w fun e w' => e = .returned (.tuple #[]) ∧ LwAt B b nv (.pointer (some ⟨b, 1, none⟩)) l w' ∧ Below B w w' ∧ KeepsW w w' := by
  rcases h with h | h
  · obtain ⟨hB, v, hbk, hown⟩ := id h
    refine (lwCheck_fresh b w (Lib.cell_of_heap hbk 1) (by simp [World.shape?, hbk]) (Lib.frozen_of_heap hbk 1)).mono ?_
    rintro e w' ⟨rfl, rfl⟩
    have hne := Lib.ownBlock_ne hown hbk (by decide)
    refine ⟨rfl, ⟨hB, v, ?_, ?_⟩, (Below.refl B w).setCell (p := ⟨b, 1, none⟩) hB _, keepsW_set hbk _ _⟩
    · simp [World.setCell, Array.getElem?_modify, hbk]
    · exact hown.kept (row := some b) ⟨rfl, rfl, rfl, by simp [World.setCell], fun k _ hk => Below.heap_setCell _ _ _ _ (fun e => hk (by simp [e]))⟩ (Or.inr hne)
  · obtain ⟨hB, v, hbk, hown⟩ := id h
    refine (lwCheck_used b w (Lib.cell_of_heap hbk 1)).mono ?_
    rintro e w' ⟨rfl, rfl⟩
    exact ⟨rfl, h, Below.refl B _, KeepsW.refl _⟩

theorem lw_put {B b : Nat} {nv p v v' : Value} {l : List UInt8} {w : World} (hB : B ≤ b) (hb : w.heap[b]? = some (.cells #[nv, p, v] 94 (0, 0))) (hown : w.ownsRow B 5 1 v' (Lib.byteCells l).length (Lib.byteCells l)) : LwAt B b nv p l (w.setCell ⟨b, 2, none⟩ v') := by
  have hne := Lib.ownBlock_ne hown hb (by decide)
  refine ⟨hB, v', ?_, ?_⟩
  · simp [World.setCell, Array.getElem?_modify, hb]
  · exact hown.kept (row := some b) ⟨rfl, rfl, rfl, by simp [World.setCell], fun k _ hk => Below.heap_setCell _ _ _ _ (fun e => hk (by simp [e]))⟩ (Or.inr hne)

set_option maxRecDepth 100000 in
set_option maxHeartbeats 800000 in
theorem lwString_any (B b : Nat) (nv : Value) (l : List UInt8) (s : ByteArray) (w : World) (h : Lw B b nv l w) (hlen : l.length + s.size ≤ 100000000000000) (hBw : B ≤ w.heap.size) :
    Calls Tryz.prog 150 #[.pointer (some ⟨b, 1, none⟩), .string s] w fun e w' => e = .returned (.tuple #[.int .i64 (s.size : Int), .nilIface]) ∧ Lw B b nv (l ++ s.data.toList) w' ∧ Below B w w' ∧ KeepsW w w' := by
  obtain ⟨i0, hi, hz0, hz1, hz2⟩ := info8_parts
  go_enter Tryz.func150, Tryz.ntmps150
  go_wp2_with fail
  go_at_call 177
  refine (lwCheck_any B b nv l _ h).mono ?_
  rintro e w1 ⟨rfl, ⟨hB, v, hbk, hown⟩, hb1, hk1⟩
  have hz := hb1.size
  have hlt : b < w1.heap.size := (Array.getElem?_eq_some_iff.1 hbk).1
  have hne := Lib.ownBlock_ne hown hbk (by decide)
  have H1 : Hid (w1.heap[b]? = some (.cells #[nv, .pointer (some ⟨b, 1, none⟩), v] 94 (0, 0)) ∧ w1.ownsRow B 5 1 v (Lib.byteCells l).length (Lib.byteCells l) ∧ v.ownBlock ≠ some b ∧ Below B w w1 ∧ KeepsW w w1) := ⟨hbk, hown, hne, hb1, hk1⟩
  have c0 : w1.cell? ⟨b, 1, none⟩ = some (.pointer (some ⟨b, 1, none⟩)) := Lib.cell_of_heap hbk 1
  have c1 : w1.cell? ⟨b, 2, none⟩ = some v := Lib.cell_of_heap hbk 2
  clear hbk hown hne hb1 hk1 h
  go_wp2_with (at_builtin; go_must (refine Lib.wpList_append_own_string _ rfl _ _ 22 9 rfl B 5 i0 Tryz.underlying22 Tryz.underlying9 hi hz0 hz1 hz2 _ _ _ rfl H1.out.2.1 s rfl ?c3 ?c4 ?c5 ?_))
  case c3 => rw [Lib.byteCells_length]; unfold maxLen; omega
  case c4 => rw [Lib.byteCells_length]; omega
  case c5 => omega
  intro v' w2 hown' hgrow _
  have hb2 : w2.heap[b]? = some (.cells #[nv, .pointer (some ⟨b, 1, none⟩), v] 94 (0, 0)) := (hgrow.block b hlt (fun e => H1.out.2.2.1 e.symm)).trans H1.out.1
  have H2 : Hid (LwAt B b nv (.pointer (some ⟨b, 1, none⟩)) (l ++ s.data.toList) (w2.setCell ⟨b, 2, none⟩ v') ∧ Below B w (w2.setCell ⟨b, 2, none⟩ v') ∧ KeepsW w (w2.setCell ⟨b, 2, none⟩ v')) :=
    ⟨lw_put hB hb2 (by rw [Lib.byteCells_append, List.length_append, ← Lib.strCells_eq, Lib.strCells_length]; exact hown'), (H1.out.2.2.2.1.grown hgrow (by omega) (fun k hk => (H1.out.2.1.lt k hk).1)).setCell (p := ⟨b, 2, none⟩) hB _, (H1.out.2.2.2.2.trans (keepsW_grown H1.out.2.1 hgrow)).trans (keepsW_set hb2 _ _)⟩
  have d0 : w2.cell? ⟨b, 1, none⟩ = some (.pointer (some ⟨b, 1, none⟩)) := Lib.cell_of_heap hb2 1
  have d1 : w2.cell? ⟨b, 2, none⟩ = some v := Lib.cell_of_heap hb2 2
  have f1 : w2.frozen? ⟨b, 2, none⟩ = false := Lib.frozen_of_heap hb2 2
  obtain ⟨ao, n', cap, rfl⟩ : ∃ ao n' cap, v' = .slice ao n' cap := by
    rcases hown'.2 with ⟨hv, _⟩ | ⟨g, cap, cur, hv, _⟩
    · exact ⟨_, _, _, hv⟩
    · exact ⟨_, _, _, hv⟩
  clear hown' hgrow hb2
  go_wp2
  go_ret2
  exact ⟨rfl, .inr H2.out.1, H2.out.2⟩

/-- Texts, one behind the other. -/
def catL : List ByteArray → List UInt8
  | [] => []
  | s :: r => s.data.toList ++ catL r
theorem catL_take (ss : List ByteArray) (k : Nat) (h : k < ss.length) : catL (ss.take (k + 1)) = catL (ss.take k) ++ ss[k].data.toList := by
  induction ss generalizing k with
  | nil => simp at h
  | cons s r ih =>
    cases k with
    | zero => simp [catL]
    | succ k =>
      simp only [List.length_cons] at h
      simp only [List.take_succ_cons, catL, List.getElem_cons_succ, List.append_assoc]
      rw [ih k (by omega)]
theorem catL_le (ss : List ByteArray) (k : Nat) : (catL (ss.take k)).length ≤ (catL ss).length := by
  induction ss generalizing k with
  | nil => simp
  | cons s r ih =>
    cases k with
    | zero => simp [catL]
    | succ k =>
      simp only [List.take_succ_cons, catL, List.length_append]
      have := ih k
      omega

set_option maxRecDepth 100000 in
set_option maxHeartbeats 1600000 in
theorem lwWrite_any (B b g : Nat) (nv : Value) (l : List UInt8) (ss : List ByteArray) (n : Nat) (w : World) (h : Lw B b nv l w) (hn : ss.length = n) (hg : w.heap[g]? = some (.cells (ss.map Value.string).toArray 9 (0, 0))) (hn8 : n ≤ 8) (hlen : l.length + (catL ss).length ≤ 100000000000000) (hBw : B ≤ w.heap.size) :
    Calls Tryz.prog 99 #[.pointer (some ⟨b, 0, none⟩), .slice (some ⟨g, 0, none⟩) n n] w (Wrote B b nv (l ++ catL ss) w) := by
  have HN : Hid (ss.length = n) := hn
  have HG : Hid (w.heap[g]? = some (.cells (ss.map Value.string).toArray 9 (0, 0))) := hg
  have HL : Hid (l.length + (catL ss).length ≤ 100000000000000) := hlen
  have H0 : Hid (Lw B b nv (l ++ catL (ss.take 0)) w ∧ Below B w w ∧ KeepsW w w) := ⟨by simpa [catL] using h, Below.refl _ _, KeepsW.refl _⟩
  clear h hn hg hlen
  go_enter Tryz.func99, Tryz.ntmps99
  go_wp2
  go_loopw [8] (fun i wr => ∃ k : Nat, k ≤ n ∧ i = .int .i64 (k : Int) ∧ Hid (Lw B b nv (l ++ catL (ss.take k)) wr ∧ Below B w wr ∧ KeepsW w wr)) (fun i _ => n - (intOf i).toNat)
  case atStart => exact ⟨0, Nat.zero_le _, rfl, H0⟩
  case round =>
    obtain ⟨k, hk, rfl, HB⟩ := hrel
    by_cases hlt : k < n
    · have hk1 : (k : Int) < (n : Int) := by omega
      have hk0 : (0 : Int) ≤ (k : Int) := by omega
      have hkl : k < ss.length := by rw [HN.out]; exact hlt
      obtain ⟨s, hs⟩ : ∃ s, Hid (ss[k] = s) := ⟨_, (rfl : ss[k] = ss[k])⟩
      have c0 : wr.cell? ⟨g, k, none⟩ = some (.string s) := by
        rw [Lib.cell_of_heap (HB.out.2.2 g _ _ _ (by decide) (by decide) HG.out), ← hs.out]
        simp [hkl]
      have HE : Hid (l ++ catL (ss.take (k + 1)) = (l ++ catL (ss.take k)) ++ s.data.toList) := by
        show _ = _
        rw [catL_take ss k hkl, hs.out, List.append_assoc]
      have HZ : Hid ((l ++ catL (ss.take k)).length + s.size ≤ 100000000000000) := by
        show _ ≤ _
        have h1 := catL_le ss (k + 1)
        have h2 := HL.out
        rw [catL_take ss k hkl, hs.out, List.length_append] at h1
        rw [List.length_append]
        have h3 : s.data.toList.length = s.size := by rw [Array.length_toList]; rfl
        omega
      have cW : Hid (∀ W, W = wr → Calls Tryz.prog 150 #[.pointer (some ⟨b, 1, none⟩), .string s] W fun e w' => e = .returned (.tuple #[.int .i64 (s.size : Int), .nilIface]) ∧ Lw B b nv (l ++ catL (ss.take (k + 1))) w' ∧ Below B W w' ∧ KeepsW W w') := fun W e => by
        rw [HE.out, e]
        exact lwString_any B b nv _ s wr HB.out.1 HZ.out (Nat.le_trans hBw HB.out.2.1.size)
      go_wp2_with fail
      go_at_call 150
      refine Calls.mono (cW.out _ rfl) ?_
      rintro e w3 ⟨rfl, hB3, hb3, hk3⟩
      have H3 : Hid (Lw B b nv (l ++ catL (ss.take (k + 1))) w3 ∧ Below B w w3 ∧ KeepsW w w3) := ⟨hB3, HB.out.2.1.trans hb3, HB.out.2.2.trans hk3⟩
      clear hB3 hb3 hk3
      go_wp2
      go_roundw
      case rel => exact ⟨k + 1, by omega, by go_num, H3⟩
      case measure => simp [intOf]; omega
    · have HF : Hid (Lw B b nv (l ++ catL ss) wr) := by
        have h1 := HB.out.1
        rw [List.take_of_length_le (by rw [HN.out]; omega)] at h1
        exact h1
      go_wp2
      go_returns
      exact ⟨rfl, HF.out, HB.out.2⟩

theorem lw_cells1 : Tryz.prog.cellsOf 5 = 1 := by kernel_rfl
theorem lw_none (W : World) (q : Option Addr) : (Builtin.unsafeString_ #[142, 3] 9 #[.pointer q, .int .i64 0]).run Tryz.prog W = .ok (.string .empty) W := Lib.run_unsafeString_none W _ _ _ q

set_option maxHeartbeats 1000000 in
set_option maxRecDepth 100000 in
theorem lwText_some (B b : Nat) (nv : Value) (l : List UInt8) (w : World) (h : Lw B b nv l w) (h0 : l ≠ []) :
    Calls Tryz.prog 58 #[.pointer (some ⟨b, 1, none⟩)] w fun e w' => e = .returned (.string ⟨l.toArray⟩) ∧ Below B w w' := by
  obtain ⟨p, hB, v, hbk, hown⟩ := h.at
  have hl0 : l.length ≠ 0 := by simpa using h0
  rw [Lib.byteCells_length] at hown
  obtain ⟨g, cap, cur, rfl, hbg, hg, hnc, hcm, hcs, htake⟩ : ∃ g cap cur, v = .slice (some ⟨g, 0, none⟩) l.length cap ∧ B ≤ g ∧ w.heap[g]? = some (.cells cur 5 (0, 0)) ∧ l.length ≤ cap ∧ cap ≤ maxLen ∧ cur.size = cap * 1 ∧ cur.toList.take (l.length * 1) = Lib.byteCells l := by
    rcases hown.2 with ⟨_, hz⟩ | ⟨g, cap, cur, hv, r⟩
    · exact absurd hz hl0
    · exact ⟨g, cap, cur, hv, r⟩
  have c1 : w.drew.cell? ⟨b, 2, none⟩ = some (.slice (some ⟨g, 0, none⟩) l.length cap) := by
    have : w.drew.heap[b]? = some (.cells #[nv, p, .slice (some ⟨g, 0, none⟩) l.length cap] 94 (0, 0)) := hbk
    rw [Lib.cell_of_heap this]; rfl
  have hSD : (Builtin.unsafeSliceData_ #[22] 142 #[.slice (some ⟨g, 0, none⟩) l.length cap]).run Tryz.prog w.drew = .ok (.pointer (some ⟨g, 0, none⟩)) w.drew :=
    Lib.run_unsafeSliceData_row _ _ _ _ _ _ (by omega)
  have hUS : (Builtin.unsafeString_ #[142, 3] 9 #[.pointer (some ⟨g, 0, none⟩), .int .i64 l.length]).run Tryz.prog w.drew = .ok (.string ⟨l.toArray⟩) (w.drew.freeze ⟨g, 0, none⟩ l.length) := by
    refine Lib.run_unsafeString_row w.drew 142 3 9 5 Tryz.underlying142 lw_cells1 g cur.size (by have hg' : w.drew.heap[g]? = some (.cells cur 5 (0, 0)) := hg; simp [World.shape?, hg']) l h0 (by omega) (by unfold maxLen at hcm; omega) ?_
    intro j x hx
    have := hown.cells (g := g) rfl j (.int .u8 x.toNat) (by simp [Lib.byteCells, hx])
    exact this
  clear hown hg htake h
  go_enter Tryz.func58, Tryz.ntmps58
  go_wp2
  go_region
  all_goals (go_wp2; go_ret; exact ⟨rfl, Lib.below_freeze (Below.drew (Below.refl B w)) (p := ⟨g, 0, none⟩) hbg _⟩)

set_option maxHeartbeats 1000000 in
set_option maxRecDepth 100000 in
theorem lwText_none (B b : Nat) (nv : Value) (w : World) (h : Lw B b nv [] w) (hBw : B ≤ w.heap.size) :
    Calls Tryz.prog 58 #[.pointer (some ⟨b, 1, none⟩)] w fun e w' => e = .returned (.string ⟨#[]⟩) ∧ Below B w w' := by
  have hUS := lw_none
  obtain ⟨p, hB, v, hbk, hown⟩ := h.at
  clear h
  rcases hown.2 with ⟨rfl, _⟩ | ⟨g, cap, cur, rfl, hbg, hg, _, _, _, _⟩
  · have c1 : w.drew.cell? ⟨b, 2, none⟩ = some (.slice none 0 0) := by
      have : w.drew.heap[b]? = some (.cells #[nv, p, .slice none 0 0] 94 (0, 0)) := hbk
      rw [Lib.cell_of_heap this]; rfl
    have hSD : (Builtin.unsafeSliceData_ #[22] 142 #[.slice none 0 0]).run Tryz.prog w.drew = .ok (.pointer none) w.drew := rfl
    clear hown
    go_enter Tryz.func58, Tryz.ntmps58
    go_wp2
    go_region
    all_goals (go_wp2; go_ret; exact ⟨rfl, Below.drew (Below.refl B w)⟩)
  · by_cases hc0 : cap = 0
    · subst hc0
      have hlt : b < w.heap.size := (Array.getElem?_eq_some_iff.1 hbk).1
      have c1 : w.drew.cell? ⟨b, 2, none⟩ = some (.slice (some ⟨g, 0, none⟩) 0 0) := by
        have : w.drew.heap[b]? = some (.cells #[nv, p, .slice (some ⟨g, 0, none⟩) 0 0] 94 (0, 0)) := hbk
        rw [Lib.cell_of_heap this]; rfl
      have hSD : (Builtin.unsafeSliceData_ #[22] 142 #[.slice (some ⟨g, 0, none⟩) 0 0]).run Tryz.prog w.drew = .ok (.pointer (some ⟨w.drew.heap.size, 0, none⟩)) (w.drew.alloc (.view ⟨g, 0, none⟩ 5)) :=
        Lib.run_unsafeSliceData_zero w.drew _ _ 5 Tryz.underlying142 ⟨g, 0, none⟩ 0 (5, cur.size) (by have hg' : w.drew.heap[g]? = some (.cells cur 5 (0, 0)) := hg; simp [World.shape?, hg'])
      have c2 : (w.drew.alloc (.view ⟨g, 0, none⟩ 5)).cell? ⟨b, 2, none⟩ = some (.slice (some ⟨g, 0, none⟩) 0 0) := by
        have : (w.drew.alloc (.view ⟨g, 0, none⟩ 5)).heap[b]? = _ := (Lib.alloc_old w.drew _ b hlt).trans hbk
        rw [Lib.cell_of_heap this]; rfl
      have c3 : (w.alloc (.view ⟨g, 0, none⟩ 5)).drew.cell? ⟨b, 2, none⟩ = some (.slice (some ⟨g, 0, none⟩) 0 0) := c2
      have c0 : w.cell? ⟨b, 2, none⟩ = some (.slice (some ⟨g, 0, none⟩) 0 0) := c1
      clear hown hg
      go_enter Tryz.func58, Tryz.ntmps58
      go_wp2
      go_region
      all_goals (go_wp2; go_ret; exact ⟨rfl, (Below.drew (Below.refl B w)).alloc hBw _⟩)
    · have c1 : w.drew.cell? ⟨b, 2, none⟩ = some (.slice (some ⟨g, 0, none⟩) 0 cap) := by
        have : w.drew.heap[b]? = some (.cells #[nv, p, .slice (some ⟨g, 0, none⟩) 0 cap] 94 (0, 0)) := hbk
        rw [Lib.cell_of_heap this]; rfl
      have hSD : (Builtin.unsafeSliceData_ #[22] 142 #[.slice (some ⟨g, 0, none⟩) 0 cap]).run Tryz.prog w.drew = .ok (.pointer (some ⟨g, 0, none⟩)) w.drew :=
        Lib.run_unsafeSliceData_row _ _ _ _ _ _ hc0
      clear hown hg hc0
      go_enter Tryz.func58, Tryz.ntmps58
      go_wp2
      go_region
      all_goals (go_wp2; go_ret; exact ⟨rfl, Below.drew (Below.refl B w)⟩)

theorem lwText_any (B b : Nat) (nv : Value) (l : List UInt8) (w : World) (h : Lw B b nv l w) (hBw : B ≤ w.heap.size) :
    Calls Tryz.prog 58 #[.pointer (some ⟨b, 1, none⟩)] w fun e w' => e = .returned (.string ⟨l.toArray⟩) ∧ Below B w w' := by
  cases l with
  | nil => exact lwText_none B b nv w h hBw
  | cons x r => exact lwText_some B b nv (x :: r) w h (by simp)

set_option maxRecDepth 100000 in
theorem lwLen_any (B b : Nat) (nv : Value) (l : List UInt8) (w : World) (h : Lw B b nv l w) :
    Calls Tryz.prog 62 #[.pointer (some ⟨b, 1, none⟩)] w fun e w' => e = .returned (.int .i64 (l.length : Int)) ∧ w' = w := by
  obtain ⟨p, hB, v, hbk, hown⟩ := h.at
  rw [Lib.byteCells_length] at hown
  obtain ⟨n, hn⟩ : ∃ n, Hid (l.length = n) := ⟨_, (rfl : l.length = l.length)⟩
  rw [hn.out] at hown ⊢
  obtain ⟨ao, cap, rfl⟩ : ∃ ao cap, v = .slice ao n cap := by
    rcases hown.2 with ⟨hv, h0⟩ | ⟨g, cap, cur, hv, _⟩
    · exact ⟨none, 0, by rw [hv, h0]⟩
    · exact ⟨_, _, hv⟩
  have c1 : w.cell? ⟨b, 2, none⟩ = some (.slice ao n cap) := Lib.cell_of_heap hbk 2
  clear hown h
  go_enter Tryz.func62, Tryz.ntmps62
  go_wp2
  go_ret
  exact ⟨rfl, rfl⟩

end Go.Proofs.YtbanmldmdoedkaaGreatDoor
