/-
  What the laws' helpers answer of rows of Var: held against each other, measured, copied, marked. Written by mkrow.py.
  VarsOf, in the model: params, then what is let under the Body.
  VarAt, in the model and in the program: what it answers at every list of vars and every name.
  The nodes under the Body and the Ret of a function, ascending, in the model.
  UsesOf, in the model: which of the nodes under a function use a name.
-/
import Derived.Test.YtjafneaaefpefaaRa
import Derived.Test.YtjafneaaefpefaaPb
import Derived.Test.YtjafneaaefpefaaKa
import Derived.Handy
import Derived.BigQuiet
import Derived.Deep.QuietTactic
import Derived.Deep.RegionHeld3
import Derived.Test.YtjafneaaefpefaaDe
namespace Go.Proofs.Ytjafneaaefpefaa
open Go.RowKit

def vrC (p : Vr) : List Value := [.string p.name, .int .i64 p.ty, .int .i64 p.node]
/-- Rows of Var. -/
def VrR : RowTy (Vr) Vr where
  enc := vrC
  k := 3
  T := 109
  sub := fun w B p => True
  rsub := fun w B p => True
  vals := fun p => []
  log := id
  len := fun _ => rfl
  sub_same := fun _ _ => trivial
  sub_base := fun _ _ => trivial
  sub_lt := fun _ g hg => by simp [fps] at hg
  sub_read := fun _ _ => trivial
  rsub_keep := fun _ _ => trivial
  rsub_up := fun _ _ => trivial
theorem VrR.at {w : World} {B : Nat} {a : Option Addr} {n cap : Nat} {xs : List Vr} (h : VrR.Row w B (.slice a n cap) xs) (i : Nat) (hi : i < xs.length) :
    ∃ b off, a = some ⟨b, off, none⟩ ∧ b < B ∧ w.cell? ⟨b, off + i * 3, none⟩ = some (.string xs[i].name) ∧ w.cell? ⟨b, off + i * 3 + 1, none⟩ = some (.int .i64 xs[i].ty) ∧ w.cell? ⟨b, off + i * 3 + 2, none⟩ = some (.int .i64 xs[i].node) := by
  obtain ⟨b, off, p, ha, hb, hp, hk, hc⟩ := RowTy.Row.at h i hi
  obtain rfl : p = xs[i] := hp
  exact ⟨b, off, ha, hb, hc 0 (by decide), hc 1 (by decide), hc 2 (by decide)⟩

set_option maxRecDepth 100000 in
set_option maxHeartbeats 1600000 in
theorem eqVar_same (B : Nat) (q : Vr)  (w : World) (_hB : B ≤ w.heap.size)  (_hl : szVr q ≤ 1048576) :
    Calls Try.prog 85 #[.agg #[.string q.name, .int .i64 q.ty, .int .i64 q.node], .agg #[.string q.name, .int .i64 q.ty, .int .i64 q.node]] w fun e w' => e = .returned (.bool true) ∧ Below w.heap.size w w' := by
  obtain ⟨name, ty, node⟩ := q
  simp only
  go_enter Try.func85, Try.ntmps85
  go_wp2
  go_ret
  exact ⟨rfl, by go_grown⟩

set_option maxRecDepth 100000 in
set_option maxHeartbeats 1600000 in
theorem eqVarS_same (B : Nat) (va vb : Value) (xs : List Vr) (w : World) (hB : B ≤ w.heap.size) (ha : VrR.Row w B va xs) (hb : VrR.Row w B vb xs) (hl : szRow szVr xs ≤ 1048576) :
    Calls Try.prog 45 #[va, vb] w fun e w' => e = .returned (.bool true) ∧ Below w.heap.size w w' := by
  obtain ⟨a, ca, rfl⟩ := ha.len
  obtain ⟨b, cb, rfl⟩ := hb.len
  obtain ⟨N, HN⟩ : ∃ N, Hid (xs.length = N) := ⟨_, (rfl : xs.length = xs.length)⟩
  have H : Hid (VrR.Row w B (.slice a N ca) xs ∧ VrR.Row w B (.slice b N cb) xs) := by rw [← HN.out]; exact ⟨ha, hb⟩
  have HS : Hid (szRow szVr xs ≤ 1048576) := hl
  have hN : N ≤ 1048576 := by have := len_szRow szVr xs; have := HN.out; omega
  rw [HN.out]
  clear ha hb hl
  go_enter Try.func45, Try.ntmps45
  go_wp2
  go_loopw [5] (fun i wr => ∃ k : Nat, k ≤ N ∧ i = .int .i64 (k : Int) ∧ Below w.heap.size w wr) (fun i _ => N - (intOf i).toNat)
  case atStart => exact ⟨0, Nat.zero_le _, rfl, Below.refl _ _⟩
  case round =>
    obtain ⟨k, hk, rfl, hbw⟩ := hrel
    by_cases hlt : k < N
    · have hk1 : (k : Int) < (N : Int) := by omega
      have hk0 : (0 : Int) ≤ (k : Int) := by omega
      have hkl : k < xs.length := by have := HN.out; omega
      obtain ⟨ba, oa, rfl, hba, c0, c1, c2⟩ := VrR.at H.out.1 k hkl
      obtain ⟨bb, ob, rfl, hbb, e0, e1, e2⟩ := VrR.at H.out.2 k hkl
      have hq : szVr xs[k] ≤ 1048576 := Nat.le_trans (mem_szRow szVr (List.getElem_mem hkl)) HS.out
      obtain ⟨q, hqe⟩ : ∃ q, Hid (xs[k] = q) := ⟨_, (rfl : xs[k] = xs[k])⟩
      rw [hqe.out] at c0 c1 c2 e0 e1 e2 hq
      have cQ : Hid (∀ W, Below w.heap.size w W → Calls Try.prog 85 #[.agg #[.string q.name, .int .i64 q.ty, .int .i64 q.node], .agg #[.string q.name, .int .i64 q.ty, .int .i64 q.node]] W fun e w' => e = .returned (.bool true) ∧ Below W.heap.size W w') := fun W hW =>
        eqVar_same B q W (Nat.le_trans hB hW.size) hq
      obtain ⟨name, ty, node⟩ := q
      simp only at c0 c1 c2 e0 e1 e2 cQ
      clear hq
      have hba1 : ba < wr.heap.size := by have := hbw.size; omega
      have hbb1 : bb < wr.heap.size := by have := hbw.size; omega
      have d0 := (hbw.cell (p := ⟨ba, oa + k * 3, none⟩) (by show ba < _; omega)).trans c0
      have f0 := (hbw.cell (p := ⟨bb, ob + k * 3, none⟩) (by show bb < _; omega)).trans e0
      have d1 := (hbw.cell (p := ⟨ba, oa + k * 3 + 1, none⟩) (by show ba < _; omega)).trans c1
      have f1 := (hbw.cell (p := ⟨bb, ob + k * 3 + 1, none⟩) (by show bb < _; omega)).trans e1
      have d2 := (hbw.cell (p := ⟨ba, oa + k * 3 + 2, none⟩) (by show ba < _; omega)).trans c2
      have f2 := (hbw.cell (p := ⟨bb, ob + k * 3 + 2, none⟩) (by show bb < _; omega)).trans e2
      clear c0 c1 c2 e0 e1 e2
      go_wp2_with fail
      go_region_held3 (fun w' => (w'.cell? ⟨ba, oa + k * 3, none⟩ = some (.string name) ∧ w'.cell? ⟨ba, oa + k * 3 + 1, none⟩ = some (.int .i64 ty) ∧ w'.cell? ⟨ba, oa + k * 3 + 2, none⟩ = some (.int .i64 node)) ∧ (w'.cell? ⟨bb, ob + k * 3, none⟩ = some (.string name) ∧ w'.cell? ⟨bb, ob + k * 3 + 1, none⟩ = some (.int .i64 ty) ∧ w'.cell? ⟨bb, ob + k * 3 + 2, none⟩ = some (.int .i64 node))) (first | exact ⟨⟨d0, d1, d2⟩, ⟨f0, f1, f2⟩⟩ | exact ⟨⟨(hb1.cell (p := ⟨ba, oa + k * 3, none⟩) hba1).trans d0, (hb1.cell (p := ⟨ba, oa + k * 3 + 1, none⟩) hba1).trans d1, (hb1.cell (p := ⟨ba, oa + k * 3 + 2, none⟩) hba1).trans d2⟩, ⟨(hb1.cell (p := ⟨bb, ob + k * 3, none⟩) hbb1).trans f0, (hb1.cell (p := ⟨bb, ob + k * 3 + 1, none⟩) hbb1).trans f1, (hb1.cell (p := ⟨bb, ob + k * 3 + 2, none⟩) hbb1).trans f2⟩⟩) ((go_at_call 85; refine Calls.mono (cQ.out _ hbw.drew) ?_; rintro e w1 ⟨rfl, hb1⟩))
      all_goals
        go_wp2
        go_roundw
        case rel => exact ⟨k + 1, by omega, by go_num, hbw.drew.trans (hb1.mono hbw.size)⟩
        case measure => simp [intOf]; omega
    · go_wp2
      go_ret
      exact ⟨rfl, hbw⟩

theorem VrR_phys {w : World} {B H : Nat} {v : Value} {xs : List Vr} (h : VrR.Own w B H v xs) : VrR.Phys w B v xs := by
  obtain ⟨ps, hl, hp, _⟩ := h
  obtain rfl : ps = xs := by rw [← hl]; exact (List.map_id ps).symm
  exact hp

theorem Try.infoVr : (Try.prog.info? 109).map (fun i => (i.zero, i.size, i.bytes)) = some (some (.agg #[.string ByteArray.empty, .int .i64 0, .int .i64 0]), 3, 32) := by kernel_rfl
def vrZ : Vr := ⟨ByteArray.empty, 0, 0⟩

theorem len_vr {γ : Type} {xs : List γ} (h : xs.length = 3) : ∃ x0 x1 x2, xs = [x0, x1, x2] := by
  match xs, h with
  | [x0, x1, x2], _ => exact ⟨_, _, _, rfl⟩

end Go.Proofs.Ytjafneaaefpefaa

namespace Go.Proofs.Ytjafneaaefpefaa
open Go.RowKit

/-- A row of vars that the call owns. -/
def OwnsV (w : World) (B : Nat) (v : Value) (xs : List Vr) : Prop := OwnsR vrC 3 w B 109 v xs
theorem cell_eq {w w' : World} {b : Nat} (h : w'.heap[b]? = w.heap[b]?) (j : Nat) : w'.cell? ⟨b, j, none⟩ = w.cell? ⟨b, j, none⟩ := by
  simp only [World.cell?, h]
theorem isIn_iff (x a b : Int) : isIn x a b = true ↔ a ≤ x ∧ x ≤ b := by simp [isIn]
theorem vrC_len (x : Vr) : (vrC x).length = 3 := rfl
theorem vrC_ones (x : Vr) : ∀ u ∈ vrC x, u.oneCell' = true := by
  intro u hu
  simp [vrC] at hu
  rcases hu with rfl | rfl | rfl <;> rfl
theorem owns_emptyV (w : World) : OwnsV (w.alloc (.cells #[] 109)) w.heap.size (.slice (some ⟨w.heap.size, 0, none⟩) 0 0) [] :=
  ⟨rfl, .inr ⟨w.heap.size, 0, #[], rfl, Nat.le_refl _, heap_alloc_new _ _, Nat.le_refl _, Nat.zero_le _, rfl, rfl⟩⟩
theorem underAns_L (ns : List Nd) (k : Int) : UnderAns ns k (underL ns k) := by
  rcases underL_ans ns k with h | h
  · exact .inl h
  · exact .inr h
theorem OwnsV.form {w : World} {B : Nat} {v : Value} {xs : List Vr} (h : OwnsV w B v xs) (hx : xs ≠ []) : ∃ g cap, v = .slice (some ⟨g, 0, none⟩) xs.length cap := by
  rcases OwnsR.form h with ⟨_, h0⟩ | ⟨g, cap, h1, _⟩
  · exact absurd h0 hx
  · exact ⟨g, cap, h1⟩

theorem OwnsI.blk {w : World} {B g n cap : Nat} {xs : List Int} (h : OwnsI w B (.slice (some ⟨g, 0, none⟩) n cap) xs) : ∃ cs : Array Value, w.heap[g]? = some (.cells cs 3 (0, 0)) := by
  obtain ⟨_, h2⟩ := h
  rcases h2 with ⟨h0, _⟩ | ⟨g', cap', cur, hv, _, hg', _⟩
  · cases h0
  · cases hv
    exact ⟨_, hg'⟩
theorem OwnsV.ne {w : World} {B g : Nat} {v : Value} {xs : List Vr} {cs : Array Value} {T : TypeId} {fr : Nat × Nat} (h : OwnsV w B v xs) (hg : w.heap[g]? = some (.cells cs T fr)) (hT : T ≠ 109) : some g ≠ v.ownBlock := by
  intro e
  obtain ⟨_, h2⟩ := h
  rcases h2 with ⟨rfl, _⟩ | ⟨g', cap, cur, rfl, _, hg', _⟩
  · simp [Value.ownBlock] at e
  · have : g = g' := by simpa [Value.ownBlock] using e
    subst this
    rw [hg] at hg'
    injection hg' with h1
    injection h1 with _ h2
    exact hT h2

/-- Where VarsOf stands: what it has gathered, and the blocks that it made ahead. -/
structure VSt (w : World) (g2 : Nat) (bo fo : Array Value) (Tb Tf : TypeId) (wr : World) (o : Value) (xs : List Vr) : Prop where
  own : OwnsV wr w.heap.size o xs
  bel : Below w.heap.size w wr
  box : wr.heap[w.heap.size]? = some (.cells bo Tb (0, 0))
  blk : wr.heap[g2]? = some (.cells fo Tf (0, 0))
  nb : Tb ≠ 109
  nf : Tf ≠ 109
theorem VSt.lt2 {w : World} {g2 : Nat} {bo fo : Array Value} {Tb Tf : TypeId} {wr : World} {o : Value} {xs : List Vr} (h : VSt w g2 bo fo Tb Tf wr o xs) : g2 < wr.heap.size := by
  rcases Nat.lt_or_ge g2 wr.heap.size with h' | h'
  · exact h'
  · have := h.blk
    simp [Array.getElem?_eq_none h'] at this
theorem VSt.lt {w : World} {g2 : Nat} {bo fo : Array Value} {Tb Tf : TypeId} {wr : World} {o : Value} {xs : List Vr} (h : VSt w g2 bo fo Tb Tf wr o xs) : w.heap.size < wr.heap.size := by
  rcases Nat.lt_or_ge w.heap.size wr.heap.size with h' | h'
  · exact h'
  · have := h.box
    simp [Array.getElem?_eq_none h'] at this
theorem VSt.below {w : World} {g2 : Nat} {bo fo : Array Value} {Tb Tf : TypeId} {wr wn : World} {o : Value} {xs : List Vr} (h : VSt w g2 bo fo Tb Tf wr o xs) (hb : Below wr.heap.size wr wn) : VSt w g2 bo fo Tb Tf wn o xs :=
  ⟨OwnsR.below h.own hb, h.bel.trans (hb.mono h.bel.size), (hb.block _ h.lt).trans h.box, (hb.block _ h.lt2).trans h.blk, h.nb, h.nf⟩
theorem VSt.grown {w : World} {g2 : Nat} {bo fo : Array Value} {Tb Tf : TypeId} {wr wn : World} {o o2 : Value} {xs ys : List Vr} (h : VSt w g2 bo fo Tb Tf wr o xs) (hg : wr.grownBy wn o.ownBlock) (ho : OwnsV wn w.heap.size o2 ys) : VSt w g2 bo fo Tb Tf wn o2 ys :=
  ⟨ho, h.bel.grown hg h.bel.size (fun k hk => (OwnsR.lt h.own k (by simp [fpOf, hk])).1), (hg.block _ h.lt (h.own.ne h.box h.nb)).trans h.box, (hg.block _ h.lt2 (h.own.ne h.blk h.nf)).trans h.blk, h.nb, h.nf⟩

set_option maxRecDepth 100000 in
set_option maxHeartbeats 6400000 in
theorem specVarsOf_any (v0 v1 : Value) (p : Pg) (fn : Int) (w : World) (hR : RowPg w w.heap.size v0 v1 p) (hl : szPg p ≤ 1048576) :
    Calls Try.prog 43 #[.agg #[v0, v1], .int .i64 fn] w fun e w' => (∃ g cap, e = .returned (.slice (some ⟨g, 0, none⟩) (varsOf p fn).length cap) ∧ OwnsV w' w.heap.size (.slice (some ⟨g, 0, none⟩) (varsOf p fn).length cap) (varsOf p fn) ∧ (varsOf p fn).length ≤ 2097152) ∧ Below w.heap.size w w' := by
  obtain ⟨na, nc, rfl⟩ := hR.1.len
  obtain ⟨fa, fcap, rfl⟩ := hR.2.len
  obtain ⟨N, HN⟩ : ∃ N, Hid (p.nodes.length = N) := ⟨_, (rfl : p.nodes.length = p.nodes.length)⟩
  obtain ⟨F, HF⟩ : ∃ N, Hid (p.fns.length = N) := ⟨_, (rfl : p.fns.length = p.fns.length)⟩
  have HV : Hid (RowPg w w.heap.size (.slice na N nc) (.slice fa F fcap) p) := by rw [← HN.out, ← HF.out]; exact hR
  have HL : Hid (szRow szNd p.nodes ≤ 1048576 ∧ szRow szFc p.fns ≤ 1048576) := ⟨Nat.le_trans (le_szPg_nodes p) hl, Nat.le_trans (le_szPg_fns p) hl⟩
  have hNl : N ≤ 1048576 := by have := len_szRow szNd p.nodes; have := HN.out; have := HL.out.1; omega
  have hFl : F ≤ 1048576 := by have := len_szRow szFc p.fns; have := HF.out; have := HL.out.2; omega
  rw [HN.out, HF.out]
  clear hR hl
  by_cases hin : 0 ≤ fn ∧ fn ≤ (F : Int) - 1
  rotate_left
  · have HE : Hid (varsOf p fn = []) := by
      show _ = _
      unfold varsOf
      rw [HF.out, if_neg]
      rw [isIn_iff]
      exact hin
    rw [HE.out]
    have cL : Hid (∀ W, Calls Try.prog 51 #[.int .i64 fn, .int .i64 0, .int .i64 ((F : Int) - 1)] W fun e w' => e = .returned (.bool false) ∧ w' = W) := fun W => l01In_no fn 0 ((F : Int) - 1) W (by omega)
    clear HV hin
    go_enter Try.func43, Try.ntmps43
    go_wp2_with fail
    go_at_call 51
    refine Calls.mono (cL.out _) ?_
    rintro e w1 ⟨rfl, rfl⟩
    have HO := owns_emptyV (w.alloc (.cells #[.slice na N nc, .slice fa F fcap] 39))
    go_wp2
    go_ret
    have hz : (w.alloc (.cells #[.slice na N nc, .slice fa F fcap] 39)).heap.size = w.heap.size + 1 := by simp
    rw [hz] at HO
    exact ⟨⟨_, _, rfl, owns_base HO (by omega), by simp⟩, by go_grown⟩
  obtain ⟨m, rfl⟩ : ∃ m : Nat, fn = (m : Int) := ⟨fn.toNat, by omega⟩
  have hmF : m < F := by omega
  have hmf : m < p.fns.length := by have := HF.out; omega
  have cL : Hid (∀ W, Calls Try.prog 51 #[.int .i64 (m : Int), .int .i64 0, .int .i64 ((F : Int) - 1)] W fun e w' => e = .returned (.bool true) ∧ w' = W) := fun W => l01In_yes (m : Int) 0 ((F : Int) - 1) W (by omega) (by omega)
  obtain ⟨b, off, pv, rfl, hb, c0, c1, c2, c3, c4, hP⟩ := FcR.at HV.out.2 m hmf
  have HE : Hid (varsOf p (m : Int) = varsIn p.nodes p.fns[m]) := by
    show _ = _
    unfold varsOf
    rw [HF.out, if_pos (by rw [isIn_iff]; omega)]
    simp [List.getD, hmf]
  have hqs : szFc p.fns[m] ≤ 1048576 := Nat.le_trans (mem_szRow szFc (List.getElem_mem hmf)) HL.out.2
  obtain ⟨q, hq⟩ : ∃ q, Hid (p.fns[m] = q) := ⟨_, (rfl : p.fns[m] = p.fns[m])⟩
  rw [hq.out] at c0 c2 c3 c4 hP HE hqs
  rw [HE.out]
  obtain ⟨fn, fp, fr, fb, ft⟩ := q
  obtain ⟨pa, pc, rfl⟩ := hP.len
  simp only at c0 c1 c2 c3 c4 hP
  have hK : fp.length ≤ 1048576 := by
    have h1 : szRow szPm fp ≤ szFc ⟨fn, fp, fr, fb, ft⟩ := le_szFc_params ⟨fn, fp, fr, fb, ft⟩
    have h2 := len_szRow szPm fp
    omega
  obtain ⟨K, HK⟩ : ∃ K, Hid (fp.length = K) := ⟨_, (rfl : fp.length = fp.length)⟩
  rw [HK.out] at c1 hP hK
  have HP : Hid (PmR.Row w w.heap.size (.slice pa K pc) fp) := hP
  have hkb : b < w.heap.size := hb
  have cU : Hid (∀ W, Below w.heap.size w W → Calls Try.prog 31 #[.agg #[.slice na N nc, .slice (some ⟨b, off, none⟩) F fcap], .int .i64 fb] W fun e w' => (∃ g cap, e = .returned (.slice (some ⟨g, 0, none⟩) (underL p.nodes fb).length cap) ∧ OwnsI w' W.heap.size (.slice (some ⟨g, 0, none⟩) (underL p.nodes fb).length cap) (underL p.nodes fb) ∧ (underL p.nodes fb).length ≤ 1048576) ∧ Below W.heap.size W w') := fun W hW => by
    refine (specUnder_any _ _ p.nodes fb W ((HV.out.1.keep hW).up hW.size) HL.out.1).mono ?_
    rintro e w' ⟨⟨g, cap, xs, he, ho, ha, hx⟩, hb⟩
    obtain rfl := underAns_one ha (underAns_L p.nodes fb)
    exact ⟨⟨g, cap, he, ho, hx⟩, hb⟩
  clear hb hqs hP
  go_enter Try.func43, Try.ntmps43
  go_wp2_with fail
  go_at_call 51
  refine Calls.mono (cL.out _) ?_
  rintro e w1 ⟨rfl, rfl⟩
  have H0 : Hid (VSt w (w.heap.size + 2) #[.slice na N nc, .slice (some ⟨b, off, none⟩) F fcap] #[.string fn, .slice pa K pc, .int .i64 fr, .int .i64 fb, .int .i64 ft] 39 88 (((w.alloc (.cells #[.slice na N nc, .slice (some ⟨b, off, none⟩) F fcap] 39)).alloc (.cells #[] 109)).alloc (.cells #[.string fn, .slice pa K pc, .int .i64 fr, .int .i64 fb, .int .i64 ft] 88)) (.slice (some ⟨w.heap.size + 1, 0, none⟩) 0 0) []) := by
    have HO := owns_emptyV (w.alloc (.cells #[.slice na N nc, .slice (some ⟨b, off, none⟩) F fcap] 39))
    have hz : (w.alloc (.cells #[.slice na N nc, .slice (some ⟨b, off, none⟩) F fcap] 39)).heap.size = w.heap.size + 1 := by simp
    rw [hz] at HO
    refine ⟨owns_base (OwnsR.below HO (by go_grown)) (by omega), by go_grown, ?_, ?_, by decide, by decide⟩
    · rw [Below.heap_alloc _ _ _ (by simp; omega), Below.heap_alloc _ _ _ (by simp)]
      exact heap_alloc_new _ _
    · exact third_new w _ _ _
  clear cL
  go_wp2_with fail
  go_loopw [5, 7] (fun o i wr => ∃ (t og oc : Nat), t ≤ K ∧ i = .int .i64 (t : Int) ∧ o = .slice (some ⟨og, 0, none⟩) t oc ∧ Hid (VSt w (w.heap.size + 2) #[.slice na N nc, .slice (some ⟨b, off, none⟩) F fcap] #[.string fn, .slice pa K pc, .int .i64 fr, .int .i64 fb, .int .i64 ft] 39 88 wr (.slice (some ⟨og, 0, none⟩) t oc) ((fp.take t).map parV))) (fun _ i _ => K - (intOf i).toNat)
  case atStart => exact ⟨0, _, _, Nat.zero_le _, rfl, rfl, H0.out⟩
  case round =>
    obtain ⟨t, og, oc, ht, rfl, rfl, HJ⟩ := hrel
    have f0 := cell_at HJ.out.blk 1
    simp at f0
    have hsz := HJ.out.bel.size
    by_cases hlt : t < K
    · have ht0 : (0 : Int) ≤ (t : Int) := by omega
      have ht1 : (t : Int) < (K : Int) := by omega
      have htp : t < fp.length := by have := HK.out; omega
      obtain ⟨pb, po, rfl, hpb, e0, e1⟩ := PmR.at HP.out t htp
      obtain ⟨x, hx⟩ : ∃ x, Hid (fp[t] = x) := ⟨_, (rfl : fp[t] = fp[t])⟩
      rw [hx.out] at e0 e1
      have d0 := (HJ.out.bel.cell (p := ⟨pb, po + t * 2, none⟩) hpb).trans e0
      have d1 := (HJ.out.bel.cell (p := ⟨pb, po + t * 2 + 1, none⟩) hpb).trans e1
      obtain ⟨xn, xt⟩ := x
      simp only at d0 d1
      have hpbr : pb < wr.heap.size := by omega
      have h2r := HJ.out.lt2
      have HNx : Hid ((fp.take (t + 1)).map parV = (fp.take t).map parV ++ [⟨xn, xt, -1⟩]) := by
        show _ = _
        rw [List.take_succ_eq_append_getElem htp, List.map_append, hx.out]
        rfl
      have hpl : ((fp.take t).map parV).length ≤ 10000000 := by
        rw [List.length_map, List.length_take]
        omega
      have hBA : Below wr.heap.size wr (wr.alloc (.cells #[.string xn, .int .i64 xt, .int .i64 (-1)] 109)).drew := by go_grown
      have HA : Hid (VSt w (w.heap.size + 2) #[.slice na N nc, .slice (some ⟨b, off, none⟩) F fcap] #[.string fn, .slice (some ⟨pb, po, none⟩) K pc, .int .i64 fr, .int .i64 fb, .int .i64 ft] 39 88 (wr.alloc (.cells #[.string xn, .int .i64 xt, .int .i64 (-1)] 109)).drew (.slice (some ⟨og, 0, none⟩) t oc) ((fp.take t).map parV)) := HJ.out.below hBA
      have hne2 : some (w.heap.size + 2) ≠ (Value.slice (some ⟨og, 0, none⟩) t oc).ownBlock := HJ.out.own.ne HJ.out.blk HJ.out.nf
      have hneb : some pb ≠ (Value.slice (some ⟨og, 0, none⟩) t oc).ownBlock := fun e => by have := (OwnsR.lt HJ.out.own pb (by simp [fpOf, ← e])).1; omega
      have hBs : w.heap.size ≤ (wr.alloc (.cells #[.string xn, .int .i64 xt, .int .i64 (-1)] 109)).drew.heap.size := HA.out.bel.size
      clear e0 e1
      go_wp2_with fail
      go_region_held3 (fun w' => w'.cell? ⟨w.heap.size + 2, 1, none⟩ = some (.slice (some ⟨pb, po, none⟩) K pc) ∧ w'.cell? ⟨pb, po + t * 2, none⟩ = some (.string xn) ∧ w'.cell? ⟨pb, po + t * 2 + 1, none⟩ = some (.int .i64 xt)) (first | exact ⟨u0, u1, u2⟩ | exact ⟨f0, d0, d1⟩ | go_keep) ((refine step_appendRA (enc := vrC) (k := 3) vrC_len rfl _ _ 54 rfl w.heap.size 109 _ 32 Try.underlying54 Try.infoVr rfl (by decide) HA.out.own ⟨xn, xt, -1⟩ (vrC_ones _) wr.heap.size (0, 0) (heap_alloc_new wr _) rfl rfl hpl (by omega) hBs ?_; intro v5 w5 hown5 hg5 hat5 hv5; obtain ⟨g5, cap5, rfl⟩ := hv5; have u0 := (cell_eq (hg5.block _ (Nat.lt_of_lt_of_le h2r hBA.size) hne2) 1).trans ((hBA.cell (p := ⟨w.heap.size + 2, 1, none⟩) h2r).trans f0); have u1 := (cell_eq (hg5.block _ (Nat.lt_of_lt_of_le hpbr hBA.size) hneb) (po + t * 2)).trans ((hBA.cell (p := ⟨pb, po + t * 2, none⟩) hpbr).trans d0); have u2 := (cell_eq (hg5.block _ (Nat.lt_of_lt_of_le hpbr hBA.size) hneb) (po + t * 2 + 1)).trans ((hBA.cell (p := ⟨pb, po + t * 2 + 1, none⟩) hpbr).trans d1)))
      have HF5 := HA.out.grown hg5 hown5
      have hXl : ((fp.take t).map parV).length = t := by
        rw [List.length_map, List.length_take]
        omega
      have HJ5 : Hid (VSt w (w.heap.size + 2) #[.slice na N nc, .slice (some ⟨b, off, none⟩) F fcap] #[.string fn, .slice (some ⟨pb, po, none⟩) K pc, .int .i64 fr, .int .i64 fb, .int .i64 ft] 39 88 w5 (.slice (some ⟨g5, 0, none⟩) (t + 1) cap5) ((fp.take (t + 1)).map parV)) := by
        rw [HNx.out]
        rw [hXl] at HF5
        exact HF5
      have HXl : Hid (((fp.take t).map parV).length = t) := hXl
      clear hown5 hg5 hat5 HF5 hXl u0 u1 u2 hne2 hneb hBs hBA HA HNx HJ f0 d0 d1
      go_wp2
      go_roundw
      case rel => exact ⟨t + 1, g5, cap5, by omega, by go_num, by first | rw [HXl.out] | (have := HK.out; simp; omega), HJ5⟩
      case measure => simp [intOf]; omega
    · have htK : t = K := by omega
      subst htK
      have H1 : Hid (VSt w (w.heap.size + 2) #[.slice na N nc, .slice (some ⟨b, off, none⟩) F fcap] #[.string fn, .slice pa t pc, .int .i64 fr, .int .i64 fb, .int .i64 ft] 39 88 wr (.slice (some ⟨og, 0, none⟩) t oc) (fp.map parV)) := by
        have h1 := HJ.out
        rw [List.take_of_length_le (by have := HK.out; omega)] at h1
        exact h1
      have f3 := cell_at HJ.out.blk 3
      have x0 := cell_at HJ.out.box 0
      have x1 := cell_at HJ.out.box 1
      simp at f3 x0 x1
      clear HJ H0
      go_wp2_with fail
      go_at_call 31
      refine Calls.mono (cU.out _ H1.out.bel) ?_
      rintro e w3 ⟨⟨gs, cs, rfl, hos, hxl⟩, hb3⟩
      have H3 : Hid (VSt w (w.heap.size + 2) #[.slice na N nc, .slice (some ⟨b, off, none⟩) F fcap] #[.string fn, .slice pa t pc, .int .i64 fr, .int .i64 fb, .int .i64 ft] 39 88 w3 (.slice (some ⟨og, 0, none⟩) t oc) (fp.map parV)) := H1.out.below hb3
      obtain ⟨xs, hxs⟩ : ∃ xs, Hid (underL p.nodes fb = xs) := ⟨_, (rfl : underL p.nodes fb = underL p.nodes fb)⟩
      rw [hxs.out] at hos hxl ⊢
      obtain ⟨X, HX⟩ : ∃ X, Hid (xs.length = X) := ⟨_, (rfl : xs.length = xs.length)⟩
      rw [HX.out] at hos hxl ⊢
      have HO3 : Hid (OwnsI w3 w.heap.size (.slice (some ⟨gs, 0, none⟩) X cs) xs) := owns_base hos H1.out.bel.size
      have HIn : Hid (∀ x ∈ xs, 0 ≤ x ∧ x < (p.nodes.length : Int)) := fun x hx => by
        rw [← hxs.out] at hx
        have := underL_in hx
        exact ⟨this.1, this.2.2.1⟩
      have HEnd : Hid (varsIn p.nodes ⟨fn, fp, fr, fb, ft⟩ = fp.map parV ++ lets p.nodes xs) := by
        show _ = _
        unfold varsIn
        rw [hxs.out]
      clear hos hb3 cU H1 f0 f3 x0 x1
      go_wp2_with fail
      go_loopw [5, 9] (fun o i wr => ∃ (s qg qc ql : Nat), s ≤ X ∧ i = .int .i64 (s : Int) ∧ o = .slice (some ⟨qg, 0, none⟩) ql qc ∧ ql ≤ 2097152 ∧ Hid (VSt w (w.heap.size + 2) #[.slice na N nc, .slice (some ⟨b, off, none⟩) F fcap] #[.string fn, .slice pa t pc, .int .i64 fr, .int .i64 fb, .int .i64 ft] 39 88 wr (.slice (some ⟨qg, 0, none⟩) ql qc) (fp.map parV ++ lets p.nodes (xs.take s)) ∧ OwnsI wr w.heap.size (.slice (some ⟨gs, 0, none⟩) X cs) xs ∧ ql = (fp.map parV ++ lets p.nodes (xs.take s)).length)) (fun _ i _ => X - (intOf i).toNat)
      case atStart => exact ⟨0, _, _, _, Nat.zero_le _, rfl, rfl, by omega, by simpa [lets] using H3.out, HO3.out, by simp [lets]; have := HK.out; omega⟩
      case round =>
        obtain ⟨s, qg, qc, ql, hs, rfl, rfl, hql, HQ⟩ := hrel
        have x0 := cell_at HQ.out.1.box 0
        simp at x0
        have hsz := HQ.out.1.bel.size
        by_cases hsl : s < X
        · have hs0 : (0 : Int) ≤ (s : Int) := by omega
          have hs1 : (s : Int) < (X : Int) := by omega
          have hsx : s < xs.length := by have := HX.out; omega
          obtain ⟨ib, io, hie, hib, e0⟩ := RowI.at (RowI.up HQ.out.2.1.row (Nat.le_refl _)) s hsx
          cases hie
          simp only [Nat.zero_add] at e0
          have hxj := HIn.out xs[s] (List.getElem_mem hsx)
          obtain ⟨j, hj⟩ : ∃ j : Nat, Hid (xs[s] = (j : Int)) := ⟨xs[s].toNat, (by show _ = _; omega)⟩
          rw [hj.out] at e0 hxj
          have hjN : j < N := by have := HN.out; omega
          have hjl : j < p.nodes.length := by have := HN.out; omega
          have hj0 : (0 : Int) ≤ (j : Int) := by omega
          have hj1 : (j : Int) < (N : Int) := by omega
          have hLT : Hid (lets p.nodes (xs.take (s + 1)) = lets p.nodes (xs.take s) ++ (if (p.nodes.getD j nd0).kind = 13 then [letV p.nodes (j : Int)] else [])) := by
            show _ = _
            rw [lets_take p.nodes xs s hsx, hj.out, Int.toNat_natCast]
          obtain ⟨nb, no, ka, kc, rfl, hnb, n0, n1, n2, n3, _⟩ := RowNd.at HV.out.1 j hjl
          have hgd : p.nodes.getD j nd0 = p.nodes[j] := by simp [List.getD, hjl]
          rw [hgd] at hLT
          have hlv : letV p.nodes (j : Int) = ⟨p.nodes[j].name, 0, (j : Int)⟩ := by
            unfold letV
            rw [Int.toNat_natCast, hgd]
          rw [hlv] at hLT
          obtain ⟨nx, hnx⟩ : ∃ nx, Hid (p.nodes[j].name = nx) := ⟨_, (rfl : p.nodes[j].name = p.nodes[j].name)⟩
          obtain ⟨kx, hkx⟩ : ∃ kx, Hid (p.nodes[j].kind = kx) := ⟨_, (rfl : p.nodes[j].kind = p.nodes[j].kind)⟩
          rw [hkx.out] at n0 hLT
          rw [hnx.out] at n2 hLT
          have d0 := (HQ.out.1.bel.cell (p := ⟨nb, no + j * 4, none⟩) hnb).trans n0
          have d2 := (HQ.out.1.bel.cell (p := ⟨nb, no + j * 4 + 2, none⟩) hnb).trans n2
          clear n0 n1 n2 n3 hgd hlv hxj
          by_cases hk : kx = 13
          · rw [if_pos hk] at hLT
            have HNx : Hid (fp.map parV ++ lets p.nodes (xs.take (s + 1)) = (fp.map parV ++ lets p.nodes (xs.take s)) ++ [⟨nx, 0, (j : Int)⟩]) := by
              show _ = _
              rw [hLT.out, List.append_assoc]
            go_wp2_with (go_quiet (fail))
            have hpl : (fp.map parV ++ lets p.nodes (xs.take s)).length ≤ 10000000 := by rw [← HQ.out.2.2]; omega
            have hBA : Below wr.heap.size wr ((wr.drewN (nq + 1)).alloc (.cells #[.string nx, .int .i64 0, .int .i64 (j : Int)] 109)) := (below_grown (grown_drewN wr (nq + 1))).alloc (Nat.le_refl _) _
            have HA : Hid (VSt w (w.heap.size + 2) #[.slice (some ⟨nb, no, none⟩) N nc, .slice (some ⟨b, off, none⟩) F fcap] #[.string fn, .slice pa t pc, .int .i64 fr, .int .i64 fb, .int .i64 ft] 39 88 ((wr.drewN (nq + 1)).alloc (.cells #[.string nx, .int .i64 0, .int .i64 (j : Int)] 109)) (.slice (some ⟨qg, 0, none⟩) ql qc) (fp.map parV ++ lets p.nodes (xs.take s))) := HQ.out.1.below hBA
            have HAo : Hid (OwnsR vrC 3 ((wr.drewN (nq + 1)).alloc (.cells #[.string nx, .int .i64 0, .int .i64 (j : Int)] 109)) w.heap.size 109 (.slice (some ⟨qg, 0, none⟩) ql qc) (fp.map parV ++ lets p.nodes (xs.take s))) := HA.out.own
            have HI2 : Hid (OwnsI ((wr.drewN (nq + 1)).alloc (.cells #[.string nx, .int .i64 0, .int .i64 (j : Int)] 109)) w.heap.size (.slice (some ⟨gs, 0, none⟩) X cs) xs) := OwnsR.below HQ.out.2.1 hBA
            have hne0 : some w.heap.size ≠ (Value.slice (some ⟨qg, 0, none⟩) ql qc).ownBlock := HQ.out.1.own.ne HQ.out.1.box HQ.out.1.nb
            have hneg : some gs ≠ (Value.slice (some ⟨qg, 0, none⟩) ql qc).ownBlock := by
              obtain ⟨cu, hcu⟩ := OwnsI.blk HQ.out.2.1
              exact HQ.out.1.own.ne hcu (by decide)
            have hnen : some nb ≠ (Value.slice (some ⟨qg, 0, none⟩) ql qc).ownBlock := fun e => by have := (OwnsR.lt HQ.out.1.own nb (by simp [fpOf, ← e])).1; omega
            have h0r : w.heap.size < wr.heap.size := HQ.out.1.lt
            have hgr : gs < wr.heap.size := hib
            have hnr : nb < wr.heap.size := by omega
            have hBs : w.heap.size ≤ ((wr.drewN (nq + 1)).alloc (.cells #[.string nx, .int .i64 0, .int .i64 (j : Int)] 109)).heap.size := HA.out.bel.size
            have hql2 : (fp.map parV ++ lets p.nodes (xs.take s)).length + 1 ≤ 2097152 := by
              have h1 := lets_len p.nodes (xs.take (s + 1))
              rw [hLT.out, List.length_append, List.length_singleton, List.length_take] at h1
              rw [List.length_append, List.length_map]
              have := HK.out
              omega
            clear hLT
            go_region_held3 (fun w' => w'.cell? ⟨w.heap.size, 0, none⟩ = some (.slice (some ⟨nb, no, none⟩) N nc) ∧ w'.cell? ⟨gs, s, none⟩ = some (.int .i64 (j : Int)) ∧ w'.cell? ⟨nb, no + j * 4 + 2, none⟩ = some (.string nx)) (first | exact ⟨u0, u1, u2⟩ | exact ⟨x0, e0, d2⟩ | go_keep) ((refine step_appendRA (enc := vrC) (k := 3) vrC_len rfl _ _ 54 rfl w.heap.size 109 _ 32 Try.underlying54 Try.infoVr rfl (by decide) HAo.out ⟨nx, 0, (j : Int)⟩ (vrC_ones _) wr.heap.size (0, 0) (heap_alloc_new (wr.drewN (nq + 1)) _) rfl rfl hpl (by omega) hBs ?_; intro v5 w5 hown5 hg5 hat5 hv5; obtain ⟨g5, cap5, rfl⟩ := hv5; have u0 := (cell_eq (hg5.block _ (Nat.lt_of_lt_of_le h0r hBA.size) hne0) 0).trans ((hBA.cell (p := ⟨w.heap.size, 0, none⟩) h0r).trans x0); have u1 := (cell_eq (hg5.block _ (Nat.lt_of_lt_of_le hgr hBA.size) hneg) s).trans ((hBA.cell (p := ⟨gs, s, none⟩) hgr).trans e0); have u2 := (cell_eq (hg5.block _ (Nat.lt_of_lt_of_le hnr hBA.size) hnen) (no + j * 4 + 2)).trans ((hBA.cell (p := ⟨nb, no + j * 4 + 2, none⟩) hnr).trans d2)))
            have HF5 := HA.out.grown hg5 hown5
            have HJ5 : Hid (VSt w (w.heap.size + 2) #[.slice (some ⟨nb, no, none⟩) N nc, .slice (some ⟨b, off, none⟩) F fcap] #[.string fn, .slice pa t pc, .int .i64 fr, .int .i64 fb, .int .i64 ft] 39 88 w5 (.slice (some ⟨g5, 0, none⟩) (ql + 1) cap5) (fp.map parV ++ lets p.nodes (xs.take (s + 1))) ∧ OwnsI w5 w.heap.size (.slice (some ⟨gs, 0, none⟩) X cs) xs ∧ ql + 1 = (fp.map parV ++ lets p.nodes (xs.take (s + 1))).length) := by
              rw [HNx.out]
              refine ⟨?_, OwnsR.kept HI2.out hg5 (.inr (fun e => hneg e)), ?_⟩
              · rw [← HQ.out.2.2] at HF5
                exact HF5
              · rw [List.length_append (bs := [_]), ← HQ.out.2.2]
                rfl
            have HQL : Hid ((fp.map parV ++ lets p.nodes (xs.take s)).length = ql) := HQ.out.2.2.symm
            clear hown5 hg5 hat5 HF5 u0 u1 u2 hne0 hneg hnen hBs hBA HA HNx HQ x0 e0 d0 d2 HI2 HAo
            go_wp2
            go_roundw
            case rel => exact ⟨s + 1, g5, cap5, ql + 1, by omega, by go_num, by first | rw [HQL.out] | (have := HQL.out; simp at this; simp; omega), by have := HQL.out; omega, HJ5⟩
            case measure => simp [intOf]; omega
          · rw [if_neg hk, List.append_nil] at hLT
            have HJ5 : Hid (VSt w (w.heap.size + 2) #[.slice (some ⟨nb, no, none⟩) N nc, .slice (some ⟨b, off, none⟩) F fcap] #[.string fn, .slice pa t pc, .int .i64 fr, .int .i64 fb, .int .i64 ft] 39 88 wr (.slice (some ⟨qg, 0, none⟩) ql qc) (fp.map parV ++ lets p.nodes (xs.take (s + 1))) ∧ OwnsI wr w.heap.size (.slice (some ⟨gs, 0, none⟩) X cs) xs ∧ ql = (fp.map parV ++ lets p.nodes (xs.take (s + 1))).length) := by
              rw [hLT.out]
              exact HQ.out
            clear HQ hLT
            go_wp2_with (go_quiet (fail))
            go_roundw
            case rel => exact ⟨s + 1, qg, qc, ql, by omega, by go_num, rfl, hql, HJ5.out.1.below (below_grown (grown_drewN wr nq)), OwnsR.below HJ5.out.2.1 (below_grown (grown_drewN wr nq)), HJ5.out.2.2⟩
            case measure => simp [intOf]; omega
        · have HZ : Hid (OwnsV wr w.heap.size (.slice (some ⟨qg, 0, none⟩) ql qc) (varsIn p.nodes ⟨fn, fp, fr, fb, ft⟩) ∧ Below w.heap.size w wr ∧ (varsIn p.nodes ⟨fn, fp, fr, fb, ft⟩).length = ql ∧ ql ≤ 2097152) := by
            have h1 := HQ.out
            rw [List.take_of_length_le (by have := HX.out; omega), ← HEnd.out] at h1
            exact ⟨h1.1.own, h1.1.bel, h1.2.2.symm, hql⟩
          clear HQ x0
          go_wp2
          go_ret
          refine ⟨⟨qg, qc, ?_, ?_, ?_⟩, HZ.out.2.1⟩
          · rw [HZ.out.2.2.1]
            rfl
          · rw [HZ.out.2.2.1]
            exact HZ.out.1
          · rw [HZ.out.2.2.1]
            exact HZ.out.2.2.2

end Go.Proofs.Ytjafneaaefpefaa

namespace Go.Proofs.Ytjafneaaefpefaa
open Go.RowKit

end Go.Proofs.Ytjafneaaefpefaa

namespace Go.Proofs.Ytjafneaaefpefaa
open Go.RowKit

end Go.Proofs.Ytjafneaaefpefaa

namespace Go.Proofs.Ytjafneaaefpefaa
open Go.RowKit

theorem Box.grown {w wr wn : World} {o : Obj} {r : Option Nat} (h : Box w o wr) (hg : wr.grownBy wn r) (hr : ∀ k, r = some k → w.heap.size + 1 ≤ k) : Box w o wn :=
  ⟨h.b.grown hg (by have := h.lt; omega) hr⟩

end Go.Proofs.Ytjafneaaefpefaa
