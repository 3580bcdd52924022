/-
  What the laws' helpers answer of rows of Var: held against each other, measured, copied, marked. Written by mkrow.py.
  VarsOf, in the model: params, then what is let under the Body.
  VarAt, in the model and in the program: what it answers at every list of vars and every name.
  The nodes under the Body and the Ret of a function, ascending, in the model.
  UsesOf, in the model: which of the nodes under a function use a name.
-/
import Derived.Test.YtjafneaaefpefaaGreatRa
import Derived.Test.YtjafneaaefpefaaGreatPb
import Derived.Test.YtjafneaaefpefaaGreatKa
import Derived.Handy
import Derived.BigQuiet
import Derived.Deep.QuietTactic
import Derived.Deep.RegionHeld3
import Derived.Test.YtjafneaaefpefaaGreatDe
namespace Go.Proofs.YtjafneaaefpefaaGreat
open Go.RowKit

def vrC (p : Vr) : List Value := [.string p.name, .int .i64 p.ty, .int .i64 p.node]
/-- Rows of Var. -/
def VrR : RowTy (Vr) Vr where
  enc := vrC
  k := 3
  T := 47
  sub := fun w B p => True
  rsub := fun w B p => True
  vals := fun p => []
  log := id
  len := fun _ => rfl
  sub_same := fun _ _ => trivial
  sub_base := fun _ _ => trivial
  sub_lt := fun _ g hg => by simp [fps] at hg
  sub_read := fun _ _ => trivial
  rsub_keep := fun _ _ => trivial
  rsub_up := fun _ _ => trivial
theorem VrR.at {w : World} {B : Nat} {a : Option Addr} {n cap : Nat} {xs : List Vr} (h : VrR.Row w B (.slice a n cap) xs) (i : Nat) (hi : i < xs.length) :
    ∃ b off, a = some ⟨b, off, none⟩ ∧ b < B ∧ w.cell? ⟨b, off + i * 3, none⟩ = some (.string xs[i].name) ∧ w.cell? ⟨b, off + i * 3 + 1, none⟩ = some (.int .i64 xs[i].ty) ∧ w.cell? ⟨b, off + i * 3 + 2, none⟩ = some (.int .i64 xs[i].node) := by
  obtain ⟨b, off, p, ha, hb, hp, hk, hc⟩ := RowTy.Row.at h i hi
  obtain rfl : p = xs[i] := hp
  exact ⟨b, off, ha, hb, hc 0 (by decide), hc 1 (by decide), hc 2 (by decide)⟩

theorem VrR_phys {w : World} {B H : Nat} {v : Value} {xs : List Vr} (h : VrR.Own w B H v xs) : VrR.Phys w B v xs := by
  obtain ⟨ps, hl, hp, _⟩ := h
  obtain rfl : ps = xs := by rw [← hl]; exact (List.map_id ps).symm
  exact hp

theorem Tryz.infoVr : (Tryz.prog.info? 47).map (fun i => (i.zero, i.size, i.bytes)) = some (some (.agg #[.string ByteArray.empty, .int .i64 0, .int .i64 0]), 3, 32) := by kernel_rfl
def vrZ : Vr := ⟨ByteArray.empty, 0, 0⟩

theorem len_vr {γ : Type} {xs : List γ} (h : xs.length = 3) : ∃ x0 x1 x2, xs = [x0, x1, x2] := by
  match xs, h with
  | [x0, x1, x2], _ => exact ⟨_, _, _, rfl⟩

end Go.Proofs.YtjafneaaefpefaaGreat

namespace Go.Proofs.YtjafneaaefpefaaGreat
open Go.RowKit

/-- A row of vars that the call owns. -/
def OwnsV (w : World) (B : Nat) (v : Value) (xs : List Vr) : Prop := OwnsR vrC 3 w B 47 v xs
theorem cell_eq {w w' : World} {b : Nat} (h : w'.heap[b]? = w.heap[b]?) (j : Nat) : w'.cell? ⟨b, j, none⟩ = w.cell? ⟨b, j, none⟩ := by
  simp only [World.cell?, h]
theorem isIn_iff (x a b : Int) : isIn x a b = true ↔ a ≤ x ∧ x ≤ b := by simp [isIn]
theorem vrC_len (x : Vr) : (vrC x).length = 3 := rfl
theorem vrC_ones (x : Vr) : ∀ u ∈ vrC x, u.oneCell' = true := by
  intro u hu
  simp [vrC] at hu
  rcases hu with rfl | rfl | rfl <;> rfl
theorem owns_emptyV (w : World) : OwnsV (w.alloc (.cells #[] 47)) w.heap.size (.slice (some ⟨w.heap.size, 0, none⟩) 0 0) [] :=
  ⟨rfl, .inr ⟨w.heap.size, 0, #[], rfl, Nat.le_refl _, heap_alloc_new _ _, Nat.le_refl _, Nat.zero_le _, rfl, rfl⟩⟩
theorem underAns_L (ns : List Nd) (k : Int) : UnderAns ns k (underL ns k) := by
  rcases underL_ans ns k with h | h
  · exact .inl h
  · exact .inr h
theorem OwnsV.form {w : World} {B : Nat} {v : Value} {xs : List Vr} (h : OwnsV w B v xs) (hx : xs ≠ []) : ∃ g cap, v = .slice (some ⟨g, 0, none⟩) xs.length cap := by
  rcases OwnsR.form h with ⟨_, h0⟩ | ⟨g, cap, h1, _⟩
  · exact absurd h0 hx
  · exact ⟨g, cap, h1⟩

theorem OwnsI.blk {w : World} {B g n cap : Nat} {xs : List Int} (h : OwnsI w B (.slice (some ⟨g, 0, none⟩) n cap) xs) : ∃ cs : Array Value, w.heap[g]? = some (.cells cs 3 (0, 0)) := by
  obtain ⟨_, h2⟩ := h
  rcases h2 with ⟨h0, _⟩ | ⟨g', cap', cur, hv, _, hg', _⟩
  · cases h0
  · cases hv
    exact ⟨_, hg'⟩
theorem OwnsV.ne {w : World} {B g : Nat} {v : Value} {xs : List Vr} {cs : Array Value} {T : TypeId} {fr : Nat × Nat} (h : OwnsV w B v xs) (hg : w.heap[g]? = some (.cells cs T fr)) (hT : T ≠ 47) : some g ≠ v.ownBlock := by
  intro e
  obtain ⟨_, h2⟩ := h
  rcases h2 with ⟨rfl, _⟩ | ⟨g', cap, cur, rfl, _, hg', _⟩
  · simp [Value.ownBlock] at e
  · have : g = g' := by simpa [Value.ownBlock] using e
    subst this
    rw [hg] at hg'
    injection hg' with h1
    injection h1 with _ h2
    exact hT h2

/-- Where VarsOf stands: what it has gathered, and the blocks that it made ahead. -/
structure VSt (w : World) (g2 : Nat) (bo fo : Array Value) (Tb Tf : TypeId) (wr : World) (o : Value) (xs : List Vr) : Prop where
  own : OwnsV wr w.heap.size o xs
  bel : Below w.heap.size w wr
  box : wr.heap[w.heap.size]? = some (.cells bo Tb (0, 0))
  blk : wr.heap[g2]? = some (.cells fo Tf (0, 0))
  nb : Tb ≠ 47
  nf : Tf ≠ 47
theorem VSt.lt2 {w : World} {g2 : Nat} {bo fo : Array Value} {Tb Tf : TypeId} {wr : World} {o : Value} {xs : List Vr} (h : VSt w g2 bo fo Tb Tf wr o xs) : g2 < wr.heap.size := by
  rcases Nat.lt_or_ge g2 wr.heap.size with h' | h'
  · exact h'
  · have := h.blk
    simp [Array.getElem?_eq_none h'] at this
theorem VSt.lt {w : World} {g2 : Nat} {bo fo : Array Value} {Tb Tf : TypeId} {wr : World} {o : Value} {xs : List Vr} (h : VSt w g2 bo fo Tb Tf wr o xs) : w.heap.size < wr.heap.size := by
  rcases Nat.lt_or_ge w.heap.size wr.heap.size with h' | h'
  · exact h'
  · have := h.box
    simp [Array.getElem?_eq_none h'] at this
theorem VSt.below {w : World} {g2 : Nat} {bo fo : Array Value} {Tb Tf : TypeId} {wr wn : World} {o : Value} {xs : List Vr} (h : VSt w g2 bo fo Tb Tf wr o xs) (hb : Below wr.heap.size wr wn) : VSt w g2 bo fo Tb Tf wn o xs :=
  ⟨OwnsR.below h.own hb, h.bel.trans (hb.mono h.bel.size), (hb.block _ h.lt).trans h.box, (hb.block _ h.lt2).trans h.blk, h.nb, h.nf⟩
theorem VSt.grown {w : World} {g2 : Nat} {bo fo : Array Value} {Tb Tf : TypeId} {wr wn : World} {o o2 : Value} {xs ys : List Vr} (h : VSt w g2 bo fo Tb Tf wr o xs) (hg : wr.grownBy wn o.ownBlock) (ho : OwnsV wn w.heap.size o2 ys) : VSt w g2 bo fo Tb Tf wn o2 ys :=
  ⟨ho, h.bel.grown hg h.bel.size (fun k hk => (OwnsR.lt h.own k (by simp [fpOf, hk])).1), (hg.block _ h.lt (h.own.ne h.box h.nb)).trans h.box, (hg.block _ h.lt2 (h.own.ne h.blk h.nf)).trans h.blk, h.nb, h.nf⟩

set_option maxRecDepth 100000 in
set_option maxHeartbeats 6400000 in
theorem specVarsOf_any (v0 v1 : Value) (p : Pg) (fn : Int) (w : World) (hR : RowPg w w.heap.size v0 v1 p) (hl : szPg p ≤ 1048576) :
    Calls Tryz.prog 19 #[.agg #[v0, v1], .int .i64 fn] w fun e w' => (∃ g cap, e = .returned (.slice (some ⟨g, 0, none⟩) (varsOf p fn).length cap) ∧ OwnsV w' w.heap.size (.slice (some ⟨g, 0, none⟩) (varsOf p fn).length cap) (varsOf p fn) ∧ (varsOf p fn).length ≤ 2097152) ∧ Below w.heap.size w w' := by
  obtain ⟨na, nc, rfl⟩ := hR.1.len
  obtain ⟨fa, fcap, rfl⟩ := hR.2.len
  obtain ⟨N, HN⟩ : ∃ N, Hid (p.nodes.length = N) := ⟨_, (rfl : p.nodes.length = p.nodes.length)⟩
  obtain ⟨F, HF⟩ : ∃ N, Hid (p.fns.length = N) := ⟨_, (rfl : p.fns.length = p.fns.length)⟩
  have HV : Hid (RowPg w w.heap.size (.slice na N nc) (.slice fa F fcap) p) := by rw [← HN.out, ← HF.out]; exact hR
  have HL : Hid (szRow szNd p.nodes ≤ 1048576 ∧ szRow szFc p.fns ≤ 1048576) := ⟨Nat.le_trans (le_szPg_nodes p) hl, Nat.le_trans (le_szPg_fns p) hl⟩
  have hNl : N ≤ 1048576 := by have := len_szRow szNd p.nodes; have := HN.out; have := HL.out.1; omega
  have hFl : F ≤ 1048576 := by have := len_szRow szFc p.fns; have := HF.out; have := HL.out.2; omega
  rw [HN.out, HF.out]
  clear hR hl
  by_cases hin : 0 ≤ fn ∧ fn ≤ (F : Int) - 1
  rotate_left
  · have HE : Hid (varsOf p fn = []) := by
      show _ = _
      unfold varsOf
      rw [HF.out, if_neg]
      rw [isIn_iff]
      exact hin
    rw [HE.out]
    have cL : Hid (∀ W, Calls Tryz.prog 45 #[.int .i64 fn, .int .i64 0, .int .i64 ((F : Int) - 1)] W fun e w' => e = .returned (.bool false) ∧ w' = W) := fun W => l01In_no fn 0 ((F : Int) - 1) W (by omega)
    clear HV hin
    go_enter Tryz.func19, Tryz.ntmps19
    go_wp2_with fail
    go_at_call 45
    refine Calls.mono (cL.out _) ?_
    rintro e w1 ⟨rfl, rfl⟩
    have HO := owns_emptyV (w.alloc (.cells #[.slice na N nc, .slice fa F fcap] 31))
    go_wp2
    go_ret
    have hz : (w.alloc (.cells #[.slice na N nc, .slice fa F fcap] 31)).heap.size = w.heap.size + 1 := by simp
    rw [hz] at HO
    exact ⟨⟨_, _, rfl, owns_base HO (by omega), by simp⟩, by go_grown⟩
  obtain ⟨m, rfl⟩ : ∃ m : Nat, fn = (m : Int) := ⟨fn.toNat, by omega⟩
  have hmF : m < F := by omega
  have hmf : m < p.fns.length := by have := HF.out; omega
  have cL : Hid (∀ W, Calls Tryz.prog 45 #[.int .i64 (m : Int), .int .i64 0, .int .i64 ((F : Int) - 1)] W fun e w' => e = .returned (.bool true) ∧ w' = W) := fun W => l01In_yes (m : Int) 0 ((F : Int) - 1) W (by omega) (by omega)
  obtain ⟨b, off, pv, rfl, hb, c0, c1, c2, c3, c4, hP⟩ := FcR.at HV.out.2 m hmf
  have HE : Hid (varsOf p (m : Int) = varsIn p.nodes p.fns[m]) := by
    show _ = _
    unfold varsOf
    rw [HF.out, if_pos (by rw [isIn_iff]; omega)]
    simp [List.getD, hmf]
  have hqs : szFc p.fns[m] ≤ 1048576 := Nat.le_trans (mem_szRow szFc (List.getElem_mem hmf)) HL.out.2
  obtain ⟨q, hq⟩ : ∃ q, Hid (p.fns[m] = q) := ⟨_, (rfl : p.fns[m] = p.fns[m])⟩
  rw [hq.out] at c0 c2 c3 c4 hP HE hqs
  rw [HE.out]
  obtain ⟨fn, fp, fr, fb, ft⟩ := q
  obtain ⟨pa, pc, rfl⟩ := hP.len
  simp only at c0 c1 c2 c3 c4 hP
  have hK : fp.length ≤ 1048576 := by
    have h1 : szRow szPm fp ≤ szFc ⟨fn, fp, fr, fb, ft⟩ := le_szFc_params ⟨fn, fp, fr, fb, ft⟩
    have h2 := len_szRow szPm fp
    omega
  obtain ⟨K, HK⟩ : ∃ K, Hid (fp.length = K) := ⟨_, (rfl : fp.length = fp.length)⟩
  rw [HK.out] at c1 hP hK
  have HP : Hid (PmR.Row w w.heap.size (.slice pa K pc) fp) := hP
  have hkb : b < w.heap.size := hb
  have cU : Hid (∀ W, Below w.heap.size w W → Calls Tryz.prog 49 #[.agg #[.slice na N nc, .slice (some ⟨b, off, none⟩) F fcap], .int .i64 fb] W fun e w' => (∃ g cap, e = .returned (.slice (some ⟨g, 0, none⟩) (underL p.nodes fb).length cap) ∧ OwnsI w' W.heap.size (.slice (some ⟨g, 0, none⟩) (underL p.nodes fb).length cap) (underL p.nodes fb) ∧ (underL p.nodes fb).length ≤ 1048576) ∧ Below W.heap.size W w') := fun W hW => by
    refine (specUnder_any _ _ p.nodes fb W ((HV.out.1.keep hW).up hW.size) HL.out.1).mono ?_
    rintro e w' ⟨⟨g, cap, xs, he, ho, ha, hx⟩, hb⟩
    obtain rfl := underAns_one ha (underAns_L p.nodes fb)
    exact ⟨⟨g, cap, he, ho, hx⟩, hb⟩
  clear hb hqs hP
  go_enter Tryz.func19, Tryz.ntmps19
  go_wp2_with fail
  go_at_call 45
  refine Calls.mono (cL.out _) ?_
  rintro e w1 ⟨rfl, rfl⟩
  have H0 : Hid (VSt w (w.heap.size + 2) #[.slice na N nc, .slice (some ⟨b, off, none⟩) F fcap] #[.string fn, .slice pa K pc, .int .i64 fr, .int .i64 fb, .int .i64 ft] 31 54 (((w.alloc (.cells #[.slice na N nc, .slice (some ⟨b, off, none⟩) F fcap] 31)).alloc (.cells #[] 47)).alloc (.cells #[.string fn, .slice pa K pc, .int .i64 fr, .int .i64 fb, .int .i64 ft] 54)) (.slice (some ⟨w.heap.size + 1, 0, none⟩) 0 0) []) := by
    have HO := owns_emptyV (w.alloc (.cells #[.slice na N nc, .slice (some ⟨b, off, none⟩) F fcap] 31))
    have hz : (w.alloc (.cells #[.slice na N nc, .slice (some ⟨b, off, none⟩) F fcap] 31)).heap.size = w.heap.size + 1 := by simp
    rw [hz] at HO
    refine ⟨owns_base (OwnsR.below HO (by go_grown)) (by omega), by go_grown, ?_, ?_, by decide, by decide⟩
    · rw [Below.heap_alloc _ _ _ (by simp; omega), Below.heap_alloc _ _ _ (by simp)]
      exact heap_alloc_new _ _
    · exact third_new w _ _ _
  clear cL
  go_wp2_with fail
  go_loopw [5, 7] (fun o i wr => ∃ (t og oc : Nat), t ≤ K ∧ i = .int .i64 (t : Int) ∧ o = .slice (some ⟨og, 0, none⟩) t oc ∧ Hid (VSt w (w.heap.size + 2) #[.slice na N nc, .slice (some ⟨b, off, none⟩) F fcap] #[.string fn, .slice pa K pc, .int .i64 fr, .int .i64 fb, .int .i64 ft] 31 54 wr (.slice (some ⟨og, 0, none⟩) t oc) ((fp.take t).map parV))) (fun _ i _ => K - (intOf i).toNat)
  case atStart => exact ⟨0, _, _, Nat.zero_le _, rfl, rfl, H0.out⟩
  case round =>
    obtain ⟨t, og, oc, ht, rfl, rfl, HJ⟩ := hrel
    have f0 := cell_at HJ.out.blk 1
    simp at f0
    have hsz := HJ.out.bel.size
    by_cases hlt : t < K
    · have ht0 : (0 : Int) ≤ (t : Int) := by omega
      have ht1 : (t : Int) < (K : Int) := by omega
      have htp : t < fp.length := by have := HK.out; omega
      obtain ⟨pb, po, rfl, hpb, e0, e1⟩ := PmR.at HP.out t htp
      obtain ⟨x, hx⟩ : ∃ x, Hid (fp[t] = x) := ⟨_, (rfl : fp[t] = fp[t])⟩
      rw [hx.out] at e0 e1
      have d0 := (HJ.out.bel.cell (p := ⟨pb, po + t * 2, none⟩) hpb).trans e0
      have d1 := (HJ.out.bel.cell (p := ⟨pb, po + t * 2 + 1, none⟩) hpb).trans e1
      obtain ⟨xn, xt⟩ := x
      simp only at d0 d1
      have hpbr : pb < wr.heap.size := by omega
      have h2r := HJ.out.lt2
      have HNx : Hid ((fp.take (t + 1)).map parV = (fp.take t).map parV ++ [⟨xn, xt, -1⟩]) := by
        show _ = _
        rw [List.take_succ_eq_append_getElem htp, List.map_append, hx.out]
        rfl
      have hpl : ((fp.take t).map parV).length ≤ 10000000 := by
        rw [List.length_map, List.length_take]
        omega
      have hBA : Below wr.heap.size wr (wr.alloc (.cells #[.string xn, .int .i64 xt, .int .i64 (-1)] 47)).drew := by go_grown
      have HA : Hid (VSt w (w.heap.size + 2) #[.slice na N nc, .slice (some ⟨b, off, none⟩) F fcap] #[.string fn, .slice (some ⟨pb, po, none⟩) K pc, .int .i64 fr, .int .i64 fb, .int .i64 ft] 31 54 (wr.alloc (.cells #[.string xn, .int .i64 xt, .int .i64 (-1)] 47)).drew (.slice (some ⟨og, 0, none⟩) t oc) ((fp.take t).map parV)) := HJ.out.below hBA
      have hne2 : some (w.heap.size + 2) ≠ (Value.slice (some ⟨og, 0, none⟩) t oc).ownBlock := HJ.out.own.ne HJ.out.blk HJ.out.nf
      have hneb : some pb ≠ (Value.slice (some ⟨og, 0, none⟩) t oc).ownBlock := fun e => by have := (OwnsR.lt HJ.out.own pb (by simp [fpOf, ← e])).1; omega
      have hBs : w.heap.size ≤ (wr.alloc (.cells #[.string xn, .int .i64 xt, .int .i64 (-1)] 47)).drew.heap.size := HA.out.bel.size
      clear e0 e1
      go_wp2_with fail
      go_region_held3 (fun w' => w'.cell? ⟨w.heap.size + 2, 1, none⟩ = some (.slice (some ⟨pb, po, none⟩) K pc) ∧ w'.cell? ⟨pb, po + t * 2, none⟩ = some (.string xn) ∧ w'.cell? ⟨pb, po + t * 2 + 1, none⟩ = some (.int .i64 xt)) (first | exact ⟨u0, u1, u2⟩ | exact ⟨f0, d0, d1⟩ | go_keep) ((refine step_appendRA (enc := vrC) (k := 3) vrC_len rfl _ _ 43 rfl w.heap.size 47 _ 32 Tryz.underlying43 Tryz.infoVr rfl (by decide) HA.out.own ⟨xn, xt, -1⟩ (vrC_ones _) wr.heap.size (0, 0) (heap_alloc_new wr _) rfl rfl hpl (by omega) hBs ?_; intro v5 w5 hown5 hg5 hat5 hv5; obtain ⟨g5, cap5, rfl⟩ := hv5; have u0 := (cell_eq (hg5.block _ (Nat.lt_of_lt_of_le h2r hBA.size) hne2) 1).trans ((hBA.cell (p := ⟨w.heap.size + 2, 1, none⟩) h2r).trans f0); have u1 := (cell_eq (hg5.block _ (Nat.lt_of_lt_of_le hpbr hBA.size) hneb) (po + t * 2)).trans ((hBA.cell (p := ⟨pb, po + t * 2, none⟩) hpbr).trans d0); have u2 := (cell_eq (hg5.block _ (Nat.lt_of_lt_of_le hpbr hBA.size) hneb) (po + t * 2 + 1)).trans ((hBA.cell (p := ⟨pb, po + t * 2 + 1, none⟩) hpbr).trans d1)))
      have HF5 := HA.out.grown hg5 hown5
      have hXl : ((fp.take t).map parV).length = t := by
        rw [List.length_map, List.length_take]
        omega
      have HJ5 : Hid (VSt w (w.heap.size + 2) #[.slice na N nc, .slice (some ⟨b, off, none⟩) F fcap] #[.string fn, .slice (some ⟨pb, po, none⟩) K pc, .int .i64 fr, .int .i64 fb, .int .i64 ft] 31 54 w5 (.slice (some ⟨g5, 0, none⟩) (t + 1) cap5) ((fp.take (t + 1)).map parV)) := by
        rw [HNx.out]
        rw [hXl] at HF5
        exact HF5
      have HXl : Hid (((fp.take t).map parV).length = t) := hXl
      clear hown5 hg5 hat5 HF5 hXl u0 u1 u2 hne2 hneb hBs hBA HA HNx HJ f0 d0 d1
      go_wp2
      go_roundw
      case rel => exact ⟨t + 1, g5, cap5, by omega, by go_num, by first | rw [HXl.out] | (have := HK.out; simp; omega), HJ5⟩
      case measure => simp [intOf]; omega
    · have htK : t = K := by omega
      subst htK
      have H1 : Hid (VSt w (w.heap.size + 2) #[.slice na N nc, .slice (some ⟨b, off, none⟩) F fcap] #[.string fn, .slice pa t pc, .int .i64 fr, .int .i64 fb, .int .i64 ft] 31 54 wr (.slice (some ⟨og, 0, none⟩) t oc) (fp.map parV)) := by
        have h1 := HJ.out
        rw [List.take_of_length_le (by have := HK.out; omega)] at h1
        exact h1
      have f3 := cell_at HJ.out.blk 3
      have x0 := cell_at HJ.out.box 0
      have x1 := cell_at HJ.out.box 1
      simp at f3 x0 x1
      clear HJ H0
      go_wp2_with fail
      go_at_call 49
      refine Calls.mono (cU.out _ H1.out.bel) ?_
      rintro e w3 ⟨⟨gs, cs, rfl, hos, hxl⟩, hb3⟩
      have H3 : Hid (VSt w (w.heap.size + 2) #[.slice na N nc, .slice (some ⟨b, off, none⟩) F fcap] #[.string fn, .slice pa t pc, .int .i64 fr, .int .i64 fb, .int .i64 ft] 31 54 w3 (.slice (some ⟨og, 0, none⟩) t oc) (fp.map parV)) := H1.out.below hb3
      obtain ⟨xs, hxs⟩ : ∃ xs, Hid (underL p.nodes fb = xs) := ⟨_, (rfl : underL p.nodes fb = underL p.nodes fb)⟩
      rw [hxs.out] at hos hxl ⊢
      obtain ⟨X, HX⟩ : ∃ X, Hid (xs.length = X) := ⟨_, (rfl : xs.length = xs.length)⟩
      rw [HX.out] at hos hxl ⊢
      have HO3 : Hid (OwnsI w3 w.heap.size (.slice (some ⟨gs, 0, none⟩) X cs) xs) := owns_base hos H1.out.bel.size
      have HIn : Hid (∀ x ∈ xs, 0 ≤ x ∧ x < (p.nodes.length : Int)) := fun x hx => by
        rw [← hxs.out] at hx
        have := underL_in hx
        exact ⟨this.1, this.2.2.1⟩
      have HEnd : Hid (varsIn p.nodes ⟨fn, fp, fr, fb, ft⟩ = fp.map parV ++ lets p.nodes xs) := by
        show _ = _
        unfold varsIn
        rw [hxs.out]
      clear hos hb3 cU H1 f0 f3 x0 x1
      go_wp2_with fail
      go_loopw [5, 9] (fun o i wr => ∃ (s qg qc ql : Nat), s ≤ X ∧ i = .int .i64 (s : Int) ∧ o = .slice (some ⟨qg, 0, none⟩) ql qc ∧ ql ≤ 2097152 ∧ Hid (VSt w (w.heap.size + 2) #[.slice na N nc, .slice (some ⟨b, off, none⟩) F fcap] #[.string fn, .slice pa t pc, .int .i64 fr, .int .i64 fb, .int .i64 ft] 31 54 wr (.slice (some ⟨qg, 0, none⟩) ql qc) (fp.map parV ++ lets p.nodes (xs.take s)) ∧ OwnsI wr w.heap.size (.slice (some ⟨gs, 0, none⟩) X cs) xs ∧ ql = (fp.map parV ++ lets p.nodes (xs.take s)).length)) (fun _ i _ => X - (intOf i).toNat)
      case atStart => exact ⟨0, _, _, _, Nat.zero_le _, rfl, rfl, by omega, by simpa [lets] using H3.out, HO3.out, by simp [lets]; have := HK.out; omega⟩
      case round =>
        obtain ⟨s, qg, qc, ql, hs, rfl, rfl, hql, HQ⟩ := hrel
        have x0 := cell_at HQ.out.1.box 0
        simp at x0
        have hsz := HQ.out.1.bel.size
        by_cases hsl : s < X
        · have hs0 : (0 : Int) ≤ (s : Int) := by omega
          have hs1 : (s : Int) < (X : Int) := by omega
          have hsx : s < xs.length := by have := HX.out; omega
          obtain ⟨ib, io, hie, hib, e0⟩ := RowI.at (RowI.up HQ.out.2.1.row (Nat.le_refl _)) s hsx
          cases hie
          simp only [Nat.zero_add] at e0
          have hxj := HIn.out xs[s] (List.getElem_mem hsx)
          obtain ⟨j, hj⟩ : ∃ j : Nat, Hid (xs[s] = (j : Int)) := ⟨xs[s].toNat, (by show _ = _; omega)⟩
          rw [hj.out] at e0 hxj
          have hjN : j < N := by have := HN.out; omega
          have hjl : j < p.nodes.length := by have := HN.out; omega
          have hj0 : (0 : Int) ≤ (j : Int) := by omega
          have hj1 : (j : Int) < (N : Int) := by omega
          have hLT : Hid (lets p.nodes (xs.take (s + 1)) = lets p.nodes (xs.take s) ++ (if (p.nodes.getD j nd0).kind = 13 then [letV p.nodes (j : Int)] else [])) := by
            show _ = _
            rw [lets_take p.nodes xs s hsx, hj.out, Int.toNat_natCast]
          obtain ⟨nb, no, ka, kc, rfl, hnb, n0, n1, n2, n3, _⟩ := RowNd.at HV.out.1 j hjl
          have hgd : p.nodes.getD j nd0 = p.nodes[j] := by simp [List.getD, hjl]
          rw [hgd] at hLT
          have hlv : letV p.nodes (j : Int) = ⟨p.nodes[j].name, 0, (j : Int)⟩ := by
            unfold letV
            rw [Int.toNat_natCast, hgd]
          rw [hlv] at hLT
          obtain ⟨nx, hnx⟩ : ∃ nx, Hid (p.nodes[j].name = nx) := ⟨_, (rfl : p.nodes[j].name = p.nodes[j].name)⟩
          obtain ⟨kx, hkx⟩ : ∃ kx, Hid (p.nodes[j].kind = kx) := ⟨_, (rfl : p.nodes[j].kind = p.nodes[j].kind)⟩
          rw [hkx.out] at n0 hLT
          rw [hnx.out] at n2 hLT
          have d0 := (HQ.out.1.bel.cell (p := ⟨nb, no + j * 4, none⟩) hnb).trans n0
          have d2 := (HQ.out.1.bel.cell (p := ⟨nb, no + j * 4 + 2, none⟩) hnb).trans n2
          clear n0 n1 n2 n3 hgd hlv hxj
          by_cases hk : kx = 13
          · rw [if_pos hk] at hLT
            have HNx : Hid (fp.map parV ++ lets p.nodes (xs.take (s + 1)) = (fp.map parV ++ lets p.nodes (xs.take s)) ++ [⟨nx, 0, (j : Int)⟩]) := by
              show _ = _
              rw [hLT.out, List.append_assoc]
            go_wp2_with (go_quiet (fail))
            have hpl : (fp.map parV ++ lets p.nodes (xs.take s)).length ≤ 10000000 := by rw [← HQ.out.2.2]; omega
            have hBA : Below wr.heap.size wr ((wr.drewN (nq + 1)).alloc (.cells #[.string nx, .int .i64 0, .int .i64 (j : Int)] 47)) := (below_grown (grown_drewN wr (nq + 1))).alloc (Nat.le_refl _) _
            have HA : Hid (VSt w (w.heap.size + 2) #[.slice (some ⟨nb, no, none⟩) N nc, .slice (some ⟨b, off, none⟩) F fcap] #[.string fn, .slice pa t pc, .int .i64 fr, .int .i64 fb, .int .i64 ft] 31 54 ((wr.drewN (nq + 1)).alloc (.cells #[.string nx, .int .i64 0, .int .i64 (j : Int)] 47)) (.slice (some ⟨qg, 0, none⟩) ql qc) (fp.map parV ++ lets p.nodes (xs.take s))) := HQ.out.1.below hBA
            have HAo : Hid (OwnsR vrC 3 ((wr.drewN (nq + 1)).alloc (.cells #[.string nx, .int .i64 0, .int .i64 (j : Int)] 47)) w.heap.size 47 (.slice (some ⟨qg, 0, none⟩) ql qc) (fp.map parV ++ lets p.nodes (xs.take s))) := HA.out.own
            have HI2 : Hid (OwnsI ((wr.drewN (nq + 1)).alloc (.cells #[.string nx, .int .i64 0, .int .i64 (j : Int)] 47)) w.heap.size (.slice (some ⟨gs, 0, none⟩) X cs) xs) := OwnsR.below HQ.out.2.1 hBA
            have hne0 : some w.heap.size ≠ (Value.slice (some ⟨qg, 0, none⟩) ql qc).ownBlock := HQ.out.1.own.ne HQ.out.1.box HQ.out.1.nb
            have hneg : some gs ≠ (Value.slice (some ⟨qg, 0, none⟩) ql qc).ownBlock := by
              obtain ⟨cu, hcu⟩ := OwnsI.blk HQ.out.2.1
              exact HQ.out.1.own.ne hcu (by decide)
            have hnen : some nb ≠ (Value.slice (some ⟨qg, 0, none⟩) ql qc).ownBlock := fun e => by have := (OwnsR.lt HQ.out.1.own nb (by simp [fpOf, ← e])).1; omega
            have h0r : w.heap.size < wr.heap.size := HQ.out.1.lt
            have hgr : gs < wr.heap.size := hib
            have hnr : nb < wr.heap.size := by omega
            have hBs : w.heap.size ≤ ((wr.drewN (nq + 1)).alloc (.cells #[.string nx, .int .i64 0, .int .i64 (j : Int)] 47)).heap.size := HA.out.bel.size
            have hql2 : (fp.map parV ++ lets p.nodes (xs.take s)).length + 1 ≤ 2097152 := by
              have h1 := lets_len p.nodes (xs.take (s + 1))
              rw [hLT.out, List.length_append, List.length_singleton, List.length_take] at h1
              rw [List.length_append, List.length_map]
              have := HK.out
              omega
            clear hLT
            go_region_held3 (fun w' => w'.cell? ⟨w.heap.size, 0, none⟩ = some (.slice (some ⟨nb, no, none⟩) N nc) ∧ w'.cell? ⟨gs, s, none⟩ = some (.int .i64 (j : Int)) ∧ w'.cell? ⟨nb, no + j * 4 + 2, none⟩ = some (.string nx)) (first | exact ⟨u0, u1, u2⟩ | exact ⟨x0, e0, d2⟩ | go_keep) ((refine step_appendRA (enc := vrC) (k := 3) vrC_len rfl _ _ 43 rfl w.heap.size 47 _ 32 Tryz.underlying43 Tryz.infoVr rfl (by decide) HAo.out ⟨nx, 0, (j : Int)⟩ (vrC_ones _) wr.heap.size (0, 0) (heap_alloc_new (wr.drewN (nq + 1)) _) rfl rfl hpl (by omega) hBs ?_; intro v5 w5 hown5 hg5 hat5 hv5; obtain ⟨g5, cap5, rfl⟩ := hv5; have u0 := (cell_eq (hg5.block _ (Nat.lt_of_lt_of_le h0r hBA.size) hne0) 0).trans ((hBA.cell (p := ⟨w.heap.size, 0, none⟩) h0r).trans x0); have u1 := (cell_eq (hg5.block _ (Nat.lt_of_lt_of_le hgr hBA.size) hneg) s).trans ((hBA.cell (p := ⟨gs, s, none⟩) hgr).trans e0); have u2 := (cell_eq (hg5.block _ (Nat.lt_of_lt_of_le hnr hBA.size) hnen) (no + j * 4 + 2)).trans ((hBA.cell (p := ⟨nb, no + j * 4 + 2, none⟩) hnr).trans d2)))
            have HF5 := HA.out.grown hg5 hown5
            have HJ5 : Hid (VSt w (w.heap.size + 2) #[.slice (some ⟨nb, no, none⟩) N nc, .slice (some ⟨b, off, none⟩) F fcap] #[.string fn, .slice pa t pc, .int .i64 fr, .int .i64 fb, .int .i64 ft] 31 54 w5 (.slice (some ⟨g5, 0, none⟩) (ql + 1) cap5) (fp.map parV ++ lets p.nodes (xs.take (s + 1))) ∧ OwnsI w5 w.heap.size (.slice (some ⟨gs, 0, none⟩) X cs) xs ∧ ql + 1 = (fp.map parV ++ lets p.nodes (xs.take (s + 1))).length) := by
              rw [HNx.out]
              refine ⟨?_, OwnsR.kept HI2.out hg5 (.inr (fun e => hneg e)), ?_⟩
              · rw [← HQ.out.2.2] at HF5
                exact HF5
              · rw [List.length_append (bs := [_]), ← HQ.out.2.2]
                rfl
            have HQL : Hid ((fp.map parV ++ lets p.nodes (xs.take s)).length = ql) := HQ.out.2.2.symm
            clear hown5 hg5 hat5 HF5 u0 u1 u2 hne0 hneg hnen hBs hBA HA HNx HQ x0 e0 d0 d2 HI2 HAo
            go_wp2
            go_roundw
            case rel => exact ⟨s + 1, g5, cap5, ql + 1, by omega, by go_num, by first | rw [HQL.out] | (have := HQL.out; simp at this; simp; omega), by have := HQL.out; omega, HJ5⟩
            case measure => simp [intOf]; omega
          · rw [if_neg hk, List.append_nil] at hLT
            have HJ5 : Hid (VSt w (w.heap.size + 2) #[.slice (some ⟨nb, no, none⟩) N nc, .slice (some ⟨b, off, none⟩) F fcap] #[.string fn, .slice pa t pc, .int .i64 fr, .int .i64 fb, .int .i64 ft] 31 54 wr (.slice (some ⟨qg, 0, none⟩) ql qc) (fp.map parV ++ lets p.nodes (xs.take (s + 1))) ∧ OwnsI wr w.heap.size (.slice (some ⟨gs, 0, none⟩) X cs) xs ∧ ql = (fp.map parV ++ lets p.nodes (xs.take (s + 1))).length) := by
              rw [hLT.out]
              exact HQ.out
            clear HQ hLT
            go_wp2_with (go_quiet (fail))
            go_roundw
            case rel => exact ⟨s + 1, qg, qc, ql, by omega, by go_num, rfl, hql, HJ5.out.1.below (below_grown (grown_drewN wr nq)), OwnsR.below HJ5.out.2.1 (below_grown (grown_drewN wr nq)), HJ5.out.2.2⟩
            case measure => simp [intOf]; omega
        · have HZ : Hid (OwnsV wr w.heap.size (.slice (some ⟨qg, 0, none⟩) ql qc) (varsIn p.nodes ⟨fn, fp, fr, fb, ft⟩) ∧ Below w.heap.size w wr ∧ (varsIn p.nodes ⟨fn, fp, fr, fb, ft⟩).length = ql ∧ ql ≤ 2097152) := by
            have h1 := HQ.out
            rw [List.take_of_length_le (by have := HX.out; omega), ← HEnd.out] at h1
            exact ⟨h1.1.own, h1.1.bel, h1.2.2.symm, hql⟩
          clear HQ x0
          go_wp2
          go_ret
          refine ⟨⟨qg, qc, ?_, ?_, ?_⟩, HZ.out.2.1⟩
          · rw [HZ.out.2.2.1]
            rfl
          · rw [HZ.out.2.2.1]
            exact HZ.out.1
          · rw [HZ.out.2.2.1]
            exact HZ.out.2.2.2

end Go.Proofs.YtjafneaaefpefaaGreat

namespace Go.Proofs.YtjafneaaefpefaaGreat
open Go.RowKit

set_option maxRecDepth 100000 in
set_option maxHeartbeats 1600000 in
theorem specVarAt_any (B : Nat) (v : Value) (xs : List Vr) (nm : ByteArray) (w : World) (hB : B ≤ w.heap.size) (hv : VrR.Row w B v xs) (hl : xs.length ≤ 4194304) :
    Calls Tryz.prog 20 #[v, .string nm] w fun e w' => e = .returned (.int .i64 (varAt xs nm)) ∧ Below w.heap.size w w' := by
  obtain ⟨a, cap, rfl⟩ := hv.len
  obtain ⟨N, HN⟩ : ∃ N, Hid (xs.length = N) := ⟨_, (rfl : xs.length = xs.length)⟩
  have H : Hid (VrR.Row w B (.slice a N cap) xs) := by rw [← HN.out]; exact hv
  rw [HN.out] at hl ⊢
  clear hv
  go_enter Tryz.func20, Tryz.ntmps20
  go_wp2
  go_loopw [5] (fun i wr => ∃ k : Nat, k ≤ N ∧ i = .int .i64 (k : Int) ∧ Hid (∀ j, (hj : j < xs.length) → j < k → sameB xs[j].name nm = false) ∧ Below w.heap.size w wr) (fun i _ => N - (intOf i).toNat)
  case atStart => exact ⟨0, Nat.zero_le _, rfl, fun j _ hj => by omega, Below.refl _ _⟩
  case round =>
    obtain ⟨k, hk, rfl, HK, hbw⟩ := hrel
    by_cases hlt : k < N
    · have hk1 : (k : Int) < (N : Int) := by omega
      have hk0 : (0 : Int) ≤ (k : Int) := by omega
      have hkl : k < xs.length := by have := HN.out; omega
      obtain ⟨b, off, rfl, hb, c0, c1, c2⟩ := VrR.at H.out k hkl
      obtain ⟨q, hqe⟩ : ∃ q, Hid (xs[k].name = q) := ⟨_, (rfl : xs[k].name = xs[k].name)⟩
      rw [hqe.out] at c0
      have d0 := (hbw.cell (p := ⟨b, off + k * 3, none⟩) (by show b < _; omega)).trans c0
      clear c0 c1 c2
      cases hs : sameB q nm
      · have HK1 : Hid (∀ j, (hj : j < xs.length) → j < k + 1 → sameB xs[j].name nm = false) := fun j hj hjk => by
          by_cases e : j = k
          · subst e
            rw [hqe.out]
            exact hs
          · exact HK.out j hj (by omega)
        unfold sameB at hs
        go_wp2
        go_roundw
        case rel => exact ⟨k + 1, by omega, by go_num, HK1, hbw⟩
        case measure => simp [intOf]; omega
      · have HF : Hid (varAt xs nm = (k : Int)) := varAt_at hkl HK.out (by rw [hqe.out]; exact hs)
        unfold sameB at hs
        go_wp2
        go_ret
        exact ⟨by rw [HF.out]; rfl, hbw⟩
    · have HF : Hid (varAt xs nm = -1) := varAt_none (fun j hj => HK.out j hj (by have := HN.out; omega))
      go_wp2
      go_ret
      exact ⟨by rw [HF.out]; rfl, hbw⟩

/-- The test that VarAt hands over: whether a var has the name. -/
theorem varAt1_any (q : Vr) (nm : ByteArray) (bn : Nat) (w : World) (hbn : bn < w.heap.size) (hc : w.cell? ⟨bn, 0, none⟩ = some (.string nm)) :
    Calls Tryz.prog 88 #[.agg #[.string q.name, .int .i64 q.ty, .int .i64 q.node], .pointer (some ⟨bn, 0, none⟩)] w fun e w' => e = .returned (.bool (sameB q.name nm)) ∧ Below w.heap.size w w' := by
  obtain ⟨q0, q1, q2⟩ := q
  unfold sameB
  simp only
  have hne : bn ≠ w.heap.size := by omega
  have hcc : ∀ o, (w.alloc o).cell? ⟨bn, 0, none⟩ = some (.string nm) := fun o => ((Below.alloc (Below.refl w.heap.size w) (Nat.le_refl _) o).cell (p := ⟨bn, 0, none⟩) hbn).trans hc
  clear hc
  go_enter Tryz.func88, Tryz.ntmps88
  go_wp2
  go_ret
  exact ⟨rfl, by go_grown⟩

set_option maxRecDepth 100000 in
set_option maxHeartbeats 1600000 in
theorem indexVar_any (B : Nat) (v : Value) (xs : List Vr) (nm : ByteArray) (bn : Nat) (w : World) (hB : B ≤ w.heap.size) (hv : VrR.Row w B v xs) (hl : xs.length ≤ 4194304) (hbn : bn < w.heap.size) (hn : w.cell? ⟨bn, 0, none⟩ = some (.string nm)) :
    Calls Tryz.prog 87 #[v, .func (.func 88) #[] #[.pointer (some ⟨bn, 0, none⟩)]] w fun e w' => e = .returned (.int .i64 (varAt xs nm)) ∧ Below w.heap.size w w' := by
  obtain ⟨a, cap, rfl⟩ := hv.len
  obtain ⟨N, HN⟩ : ∃ N, Hid (xs.length = N) := ⟨_, (rfl : xs.length = xs.length)⟩
  have H : Hid (VrR.Row w B (.slice a N cap) xs) := by rw [← HN.out]; exact hv
  rw [HN.out] at hl ⊢
  have HNM : Hid (w.cell? ⟨bn, 0, none⟩ = some (.string nm)) := hn
  clear hv hn
  go_enter Tryz.func87, Tryz.ntmps87
  go_wp2
  go_loopw [8] (fun i wr => ∃ k : Nat, k ≤ N ∧ i = .int .i64 (k : Int) ∧ Hid (∀ j, (hj : j < xs.length) → j < k → sameB xs[j].name nm = false) ∧ Below w.heap.size w wr) (fun i _ => N - (intOf i).toNat)
  case atStart => exact ⟨0, Nat.zero_le _, rfl, fun j _ hj => by omega, Below.refl _ _⟩
  case round =>
    obtain ⟨k, hk, rfl, HK, hbw⟩ := hrel
    by_cases hlt : k < N
    · have hk1 : (k : Int) < (N : Int) := by omega
      have hk0 : (0 : Int) ≤ (k : Int) := by omega
      have hkl : k < xs.length := by have := HN.out; omega
      obtain ⟨b, off, rfl, hb, c0, c1, c2⟩ := VrR.at H.out k hkl
      obtain ⟨q, hqe⟩ : ∃ q, Hid (xs[k] = q) := ⟨_, (rfl : xs[k] = xs[k])⟩
      rw [hqe.out] at c0 c1 c2
      have d0 := (hbw.cell (p := ⟨b, off + k * 3, none⟩) (by show b < _; omega)).trans c0
      have d1 := (hbw.cell (p := ⟨b, off + k * 3 + 1, none⟩) (by show b < _; omega)).trans c1
      have d2 := (hbw.cell (p := ⟨b, off + k * 3 + 2, none⟩) (by show b < _; omega)).trans c2
      have hsz := hbw.size
      obtain ⟨r, hr⟩ : ∃ r, Hid (sameB q.name nm = r) := ⟨_, (rfl : sameB q.name nm = sameB q.name nm)⟩
      have cQ : Hid (Calls Tryz.prog 88 #[.agg #[.string q.name, .int .i64 q.ty, .int .i64 q.node], .pointer (some ⟨bn, 0, none⟩)] wr fun e w' => e = .returned (.bool r) ∧ Below wr.heap.size wr w') := by
        have := varAt1_any q nm bn wr (by omega) ((hbw.cell (p := ⟨bn, 0, none⟩) hbn).trans HNM.out)
        rw [hr.out] at this
        exact this
      clear c0 c1 c2
      obtain ⟨q0, q1, q2⟩ := q
      simp only at d0 d1 d2 cQ
      go_wp2_with fail
      go_at_call 88
      refine Calls.mono cQ.out ?_
      rintro e w1 ⟨rfl, hb1⟩
      have HB1 : Hid (Below w.heap.size w w1) := hbw.trans (hb1.mono hsz)
      clear hb1 cQ d0 d1 d2 hbw
      cases r
      · have HK1 : Hid (∀ j, (hj : j < xs.length) → j < k + 1 → sameB xs[j].name nm = false) := fun j hj hjk => by
          by_cases e : j = k
          · subst e
            rw [hqe.out]
            exact hr.out
          · exact HK.out j hj (by omega)
        go_wp2
        go_roundw
        case rel => exact ⟨k + 1, by omega, by go_num, HK1, HB1.out⟩
        case measure => simp [intOf]; omega
      · have HF : Hid (varAt xs nm = (k : Int)) := varAt_at hkl HK.out (by rw [hqe.out]; exact hr.out)
        go_wp2
        go_ret
        exact ⟨by rw [HF.out]; rfl, HB1.out⟩
    · have HF : Hid (varAt xs nm = -1) := varAt_none (fun j hj => HK.out j hj (by have := HN.out; omega))
      go_wp2
      go_ret
      exact ⟨by rw [HF.out]; rfl, hbw⟩

set_option maxRecDepth 100000 in
set_option maxHeartbeats 1600000 in
theorem implVarAt_any (B : Nat) (v : Value) (xs : List Vr) (nm : ByteArray) (w : World) (hB : B ≤ w.heap.size) (hv : VrR.Row w B v xs) (hl : xs.length ≤ 4194304) :
    Calls Tryz.prog 59 #[v, .string nm] w fun e w' => e = .returned (.int .i64 (varAt xs nm)) ∧ Below w.heap.size w w' := by
  obtain ⟨z, hz⟩ : ∃ z, Hid (varAt xs nm = z) := ⟨_, (rfl : varAt xs nm = varAt xs nm)⟩
  have cI : Hid (∀ W, Below w.heap.size w W → ∀ bn, bn < W.heap.size → W.cell? ⟨bn, 0, none⟩ = some (.string nm) → Calls Tryz.prog 87 #[v, .func (.func 88) #[] #[.pointer (some ⟨bn, 0, none⟩)]] W fun e w' => e = .returned (.int .i64 z) ∧ Below W.heap.size W w') := fun W hW bn h1 h2 => by
    rw [← hz.out]
    exact indexVar_any B v xs nm bn W (Nat.le_trans hB hW.size) (hv.keep (hW.mono hB)) hl h1 h2
  rw [hz.out]
  clear hv hl hz
  go_enter Tryz.func59, Tryz.ntmps59
  go_wp2_with fail
  go_at_call 87
  refine Calls.mono (cI.out _ (by go_grown) _ (by simp) (by simp)) ?_
  rintro e w1 ⟨rfl, hb⟩
  have HB : Hid (Below w.heap.size w w1) := by
    refine Below.trans ?_ (hb.mono (by simp))
    go_grown
  clear hb cI
  go_wp2
  go_ret
  exact ⟨rfl, HB.out⟩

end Go.Proofs.YtjafneaaefpefaaGreat

namespace Go.Proofs.YtjafneaaefpefaaGreat
open Go.RowKit

set_option maxRecDepth 100000 in
set_option maxHeartbeats 6400000 in
theorem l07All_any (v0 v1 : Value) (p : Pg) (fn : Int) (w : World) (hR : RowPg w w.heap.size v0 v1 p) (hl : szPg p ≤ 1048576) :
    Calls Tryz.prog 31 #[.agg #[v0, v1], .int .i64 fn] w fun e w' => (∃ g cap, e = .returned (.slice (some ⟨g, 0, none⟩) (allOf p fn).length cap) ∧ OwnsI w' w.heap.size (.slice (some ⟨g, 0, none⟩) (allOf p fn).length cap) (allOf p fn) ∧ (allOf p fn).length ≤ 2097152) ∧ Below w.heap.size w w' := by
  obtain ⟨na, nc, rfl⟩ := hR.1.len
  obtain ⟨fa, fcap, rfl⟩ := hR.2.len
  obtain ⟨N, HN⟩ : ∃ N, Hid (p.nodes.length = N) := ⟨_, (rfl : p.nodes.length = p.nodes.length)⟩
  obtain ⟨F, HF⟩ : ∃ N, Hid (p.fns.length = N) := ⟨_, (rfl : p.fns.length = p.fns.length)⟩
  have HV : Hid (RowPg w w.heap.size (.slice na N nc) (.slice fa F fcap) p) := by rw [← HN.out, ← HF.out]; exact hR
  have HL : Hid (szRow szNd p.nodes ≤ 1048576 ∧ szRow szFc p.fns ≤ 1048576) := ⟨Nat.le_trans (le_szPg_nodes p) hl, Nat.le_trans (le_szPg_fns p) hl⟩
  have hFl : F ≤ 1048576 := by have := len_szRow szFc p.fns; have := HF.out; have := HL.out.2; omega
  rw [HN.out, HF.out]
  clear hR hl
  by_cases hin : 0 ≤ fn ∧ fn ≤ (F : Int) - 1
  rotate_left
  · have HE : Hid (allOf p fn = []) := by
      show _ = _
      unfold allOf
      rw [HF.out, if_neg]
      rw [isIn_iff]
      exact hin
    rw [HE.out]
    have cL : Hid (∀ W, Calls Tryz.prog 45 #[.int .i64 fn, .int .i64 0, .int .i64 ((F : Int) - 1)] W fun e w' => e = .returned (.bool false) ∧ w' = W) := fun W => l01In_no fn 0 ((F : Int) - 1) W (by omega)
    clear HV hin
    go_enter Tryz.func31, Tryz.ntmps31
    go_wp2_with fail
    go_at_call 45
    refine Calls.mono (cL.out _) ?_
    rintro e w1 ⟨rfl, rfl⟩
    have HO := (owns_empty (w.alloc (.cells #[.slice na N nc, .slice fa F fcap] 31))).out
    go_wp2
    go_ret
    have hz : (w.alloc (.cells #[.slice na N nc, .slice fa F fcap] 31)).heap.size = w.heap.size + 1 := by simp
    rw [hz] at HO
    exact ⟨⟨_, _, rfl, owns_base HO (by omega), by simp⟩, by go_grown⟩
  obtain ⟨m, rfl⟩ : ∃ m : Nat, fn = (m : Int) := ⟨fn.toNat, by omega⟩
  have hmF : m < F := by omega
  have hmf : m < p.fns.length := by have := HF.out; omega
  have hm0 : (0 : Int) ≤ (m : Int) := by omega
  have hm1 : (m : Int) < (F : Int) := by omega
  have cL : Hid (∀ W, Calls Tryz.prog 45 #[.int .i64 (m : Int), .int .i64 0, .int .i64 ((F : Int) - 1)] W fun e w' => e = .returned (.bool true) ∧ w' = W) := fun W => l01In_yes (m : Int) 0 ((F : Int) - 1) W (by omega) (by omega)
  obtain ⟨b, off, pv, rfl, hkb, c0, c1, c2, c3, c4, hP⟩ := FcR.at HV.out.2 m hmf
  have HE : Hid (allOf p (m : Int) = allL (underL p.nodes p.fns[m].body) (underL p.nodes p.fns[m].ret)) := by
    show _ = _
    unfold allOf
    rw [HF.out, if_pos (by rw [isIn_iff]; omega)]
    simp [List.getD, hmf]
  obtain ⟨q, hq⟩ : ∃ q, Hid (p.fns[m] = q) := ⟨_, (rfl : p.fns[m] = p.fns[m])⟩
  rw [hq.out] at c3 c4 HE
  rw [HE.out]
  obtain ⟨fb, hfb⟩ : ∃ z, Hid (q.body = z) := ⟨_, (rfl : q.body = q.body)⟩
  obtain ⟨ft, hft⟩ : ∃ z, Hid (q.ret = z) := ⟨_, (rfl : q.ret = q.ret)⟩
  rw [hfb.out] at c3 ⊢
  rw [hft.out] at c4 ⊢
  obtain ⟨A, hA⟩ : ∃ A, Hid (underL p.nodes fb = A) := ⟨_, (rfl : underL p.nodes fb = underL p.nodes fb)⟩
  obtain ⟨C, hC⟩ : ∃ A, Hid (underL p.nodes ft = A) := ⟨_, (rfl : underL p.nodes ft = underL p.nodes ft)⟩
  have cU : Hid (∀ W k xs, Below w.heap.size w W → underL p.nodes k = xs → Calls Tryz.prog 49 #[.agg #[.slice na N nc, .slice (some ⟨b, off, none⟩) F fcap], .int .i64 k] W fun e w' => (∃ g cap, e = .returned (.slice (some ⟨g, 0, none⟩) xs.length cap) ∧ OwnsI w' W.heap.size (.slice (some ⟨g, 0, none⟩) xs.length cap) xs ∧ xs.length ≤ 1048576) ∧ Below W.heap.size W w') := fun W k xs hW hx => by
    subst hx
    refine (specUnder_any _ _ p.nodes k W ((HV.out.1.keep hW).up hW.size) HL.out.1).mono ?_
    rintro e w' ⟨⟨g, cap, xs, he, ho, ha, hx⟩, hb⟩
    obtain rfl := underAns_one ha (underAns_L p.nodes k)
    exact ⟨⟨g, cap, he, ho, hx⟩, hb⟩
  have HAs : Hid (A.Pairwise (· < ·) ∧ C.Pairwise (· < ·)) := ⟨by rw [← hA.out]; exact underL_asc _ _, by rw [← hC.out]; exact underL_asc _ _⟩
  rw [hA.out, hC.out]
  obtain ⟨X, HX⟩ : ∃ X, Hid (A.length = X) := ⟨_, (rfl : A.length = A.length)⟩
  obtain ⟨Y, HY⟩ : ∃ X, Hid (C.length = X) := ⟨_, (rfl : C.length = C.length)⟩
  have cU1 := cU.out
  clear c0 c1 c2 hP hq hfb hft
  go_enter Tryz.func31, Tryz.ntmps31
  go_wp2_with fail
  go_at_call 45
  refine Calls.mono (cL.out _) ?_
  rintro e w1 ⟨rfl, rfl⟩
  clear cL cU1
  have hz1 : w.heap.size + 2 ≤ ((w.alloc (.cells #[.slice na N nc, .slice (some ⟨b, off, none⟩) F fcap] 31)).alloc (.cells #[] 3)).heap.size := by simp
  generalize hW1 : (w.alloc (.cells #[.slice na N nc, .slice (some ⟨b, off, none⟩) F fcap] 31)).alloc (.cells #[] 3) = W1 at hz1 ⊢
  have B1 : Hid (Box w (.cells #[.slice na N nc, .slice (some ⟨b, off, none⟩) F fcap] 31) W1) := by rw [← hW1]; exact (Box.first _ _).alloc _
  have O1 : Hid (OwnsI W1 w.heap.size (.slice (some ⟨w.heap.size + 1, 0, none⟩) 0 0) []) := by
    have HO := (owns_empty (w.alloc (.cells #[.slice na N nc, .slice (some ⟨b, off, none⟩) F fcap] 31))).out
    have hz : (w.alloc (.cells #[.slice na N nc, .slice (some ⟨b, off, none⟩) F fcap] 31)).heap.size = w.heap.size + 1 := by simp
    rw [hz, hW1] at HO
    exact owns_base HO (by omega)
  clear hW1
  have x0 := B1.out.cell 0
  have x1 := B1.out.cell 1
  simp at x0 x1
  have e3 := (B1.out.below.cell (p := ⟨b, off + m * 5 + 3, none⟩) hkb).trans c3
  have hwl := B1.out.lt
  have hbl : b < W1.heap.size := by omega
  clear c3
  go_wp2_with fail
  go_region_held3 (fun w' => (w'.cell? ⟨w.heap.size, 0, none⟩ = some (.slice na N nc) ∧ w'.cell? ⟨w.heap.size, 1, none⟩ = some (.slice (some ⟨b, off, none⟩) F fcap)) ∧ w'.cell? ⟨b, off + m * 5 + 3, none⟩ = some (.int .i64 fb)) (first | exact ⟨⟨x0, x1⟩, e3⟩ | exact ⟨⟨(hb3.cell (p := ⟨w.heap.size, 0, none⟩) hwl).trans x0, (hb3.cell (p := ⟨w.heap.size, 1, none⟩) hwl).trans x1⟩, (hb3.cell (p := ⟨b, off + m * 5 + 3, none⟩) hbl).trans e3⟩ | go_keep) ((go_at_call 49; refine Calls.mono (cU.out _ _ _ B1.out.below.drew hA.out) ?_; rintro e w3 ⟨⟨gs, cs, rfl, hos, hxl⟩, hb3⟩))
  rw [HX.out] at hos hxl ⊢
  have B3 : Hid (Box w (.cells #[.slice na N nc, .slice (some ⟨b, off, none⟩) F fcap] 31) w3) := B1.out.drew.next hb3
  have hg1 : w.heap.size + 2 ≤ gs ∧ gs < w3.heap.size := by
    have h1 := OwnsR.lt hos gs (by simp [fpOf, Value.ownBlock])
    have h2 : (W1.drew).heap.size = W1.heap.size := rfl
    omega
  have O3 : Hid (OwnsI w3 w.heap.size (.slice (some ⟨w.heap.size + 1, 0, none⟩) 0 0) [] ∧ OwnsI w3 w.heap.size (.slice (some ⟨gs, 0, none⟩) X cs) A) := ⟨OwnsR.below O1.out ((Below.refl _ _).drew.trans hb3), owns_base hos B1.out.below.drew.size⟩
  clear hos hb3 x0 x1 e3 hwl hbl O1 B1
  have x0 := B3.out.cell 0
  have x1 := B3.out.cell 1
  simp at x0 x1
  have e4 := (B3.out.below.cell (p := ⟨b, off + m * 5 + 4, none⟩) hkb).trans c4
  have hwl := B3.out.lt
  have hbl : b < w3.heap.size := by omega
  clear c4
  go_wp2_with fail
  go_region_held3 (fun w' => (w'.cell? ⟨w.heap.size, 0, none⟩ = some (.slice na N nc) ∧ w'.cell? ⟨w.heap.size, 1, none⟩ = some (.slice (some ⟨b, off, none⟩) F fcap)) ∧ w'.cell? ⟨b, off + m * 5 + 4, none⟩ = some (.int .i64 ft)) (first | exact ⟨⟨x0, x1⟩, e4⟩ | exact ⟨⟨(hb5.cell (p := ⟨w.heap.size, 0, none⟩) hwl).trans x0, (hb5.cell (p := ⟨w.heap.size, 1, none⟩) hwl).trans x1⟩, (hb5.cell (p := ⟨b, off + m * 5 + 4, none⟩) hbl).trans e4⟩ | go_keep) ((go_at_call 49; refine Calls.mono (cU.out _ _ _ B3.out.below.drew hC.out) ?_; rintro e w5 ⟨⟨hs, ct, rfl, hot, hyl⟩, hb5⟩))
  rw [HY.out] at hot hyl ⊢
  have B5 : Hid (Below w.heap.size w w5) := (B3.out.drew.next hb5).below
  have hg2 : w3.heap.size ≤ hs := by
    have h1 := (OwnsR.lt hot hs (by simp [fpOf, Value.ownBlock])).1
    have h2 : (w3.drew).heap.size = w3.heap.size := rfl
    omega
  have O5 : Hid (OwnsI w5 w.heap.size (.slice (some ⟨w.heap.size + 1, 0, none⟩) 0 0) [] ∧ OwnsI w5 w.heap.size (.slice (some ⟨gs, 0, none⟩) X cs) A ∧ OwnsI w5 w.heap.size (.slice (some ⟨hs, 0, none⟩) Y ct) C) := by
    have hd : Below w3.heap.size w3 w5 := (Below.refl _ _).drew.trans hb5
    exact ⟨OwnsR.below O3.out.1 hd, OwnsR.below O3.out.2 hd, owns_base hot B3.out.below.drew.size⟩
  clear hot hb5 x0 x1 e4 hwl hbl O3 B3 cU
  go_wp2_with fail
  go_loopw [5, 8, 9] (fun o si sk wr => ∃ (i k og oc L : Nat) (zs : List Int), si = .int .i64 (i : Int) ∧ sk = .int .i64 (k : Int) ∧ o = .slice (some ⟨og, 0, none⟩) L oc ∧ i ≤ X ∧ k ≤ Y ∧ og ≠ gs ∧ og ≠ hs ∧ Hid (Mrg A C i k zs ∧ OwnsI wr w.heap.size (.slice (some ⟨og, 0, none⟩) L oc) zs ∧ OwnsI wr w.heap.size (.slice (some ⟨gs, 0, none⟩) X cs) A ∧ OwnsI wr w.heap.size (.slice (some ⟨hs, 0, none⟩) Y ct) C ∧ Below w.heap.size w wr ∧ L = zs.length)) (fun _ si sk _ => (X - (intOf si).toNat) + (Y - (intOf sk).toNat))
  case atStart => exact ⟨0, 0, _, _, 0, [], rfl, rfl, rfl, Nat.zero_le _, Nat.zero_le _, by omega, by omega, Mrg.start _ _, O5.out.1, O5.out.2.1, O5.out.2.2, B5.out, rfl⟩
  case round =>
    obtain ⟨i, k, og, oc, L, zs, rfl, rfl, rfl, hiX, hkY, hog, hoh, HJ⟩ := hrel
    clear O5 B5
    have hi0 : (0 : Int) ≤ (i : Int) := by omega
    have hk0 : (0 : Int) ≤ (k : Int) := by omega
    have hsz : w.heap.size ≤ wr.heap.size := HJ.out.2.2.2.2.1.size
    have hLl : zs.length ≤ 10000000 := by have := HJ.out.1.len; omega
    have HM : ∀ (y : Int) (i' k' v4 : _) (w4 : World), i' ≤ X → k' ≤ Y → Mrg A C i' k' (zs ++ [y]) → OwnsI w4 w.heap.size v4 (zs ++ [y]) → (wr.grownBy w4 (some og)) → (v4.ownBlock = some og ∨ ∃ b, v4.ownBlock = some b ∧ wr.heap.size ≤ b) → (∃ g cap, v4 = .slice (some ⟨g, 0, none⟩) (zs.length + 1) cap) →
        ∃ g cap, v4 = .slice (some ⟨g, 0, none⟩) (zs.length + 1) cap ∧ g ≠ gs ∧ g ≠ hs ∧ Hid (Mrg A C i' k' (zs ++ [y]) ∧ OwnsI w4 w.heap.size (.slice (some ⟨g, 0, none⟩) (zs.length + 1) cap) (zs ++ [y]) ∧ OwnsI w4 w.heap.size (.slice (some ⟨gs, 0, none⟩) X cs) A ∧ OwnsI w4 w.heap.size (.slice (some ⟨hs, 0, none⟩) Y ct) C ∧ Below w.heap.size w w4 ∧ zs.length + 1 = (zs ++ [y]).length) := by
      rintro y i' k' v4 w4 h1 h2 h3 h4 h5 h6 ⟨g, cap, rfl⟩
      have hgl := (OwnsR.lt HJ.out.2.2.1 gs (by simp [fpOf, Value.ownBlock])).2
      have hhl := (OwnsR.lt HJ.out.2.2.2.1 hs (by simp [fpOf, Value.ownBlock])).2
      have hol := (OwnsR.lt HJ.out.2.1 og (by simp [fpOf, Value.ownBlock])).1
      have hne : g ≠ gs ∧ g ≠ hs := by
        rcases h6 with h6 | ⟨b', h6, h7⟩
        · have : g = og := by simpa [Value.ownBlock] using h6
          subst this
          exact ⟨hog, hoh⟩
        · have : g = b' := by simpa [Value.ownBlock] using h6
          subst this
          exact ⟨by omega, by omega⟩
      refine ⟨g, cap, rfl, hne.1, hne.2, h3, h4, OwnsR.kept HJ.out.2.2.1 h5 (.inr ?_), OwnsR.kept HJ.out.2.2.2.1 h5 (.inr ?_), ?_, by simp⟩
      · simp [Value.ownBlock]
        exact fun e => hog e.symm
      · simp [Value.ownBlock]
        exact fun e => hoh e.symm
      · exact HJ.out.2.2.2.2.1.grown h5 hsz (fun k hk => by have : k = og := by simpa using hk.symm
                                                            omega)
    have HMh : Hid (∀ (y : Int) (i' k' v4 : _) (w4 : World), i' ≤ X → k' ≤ Y → Mrg A C i' k' (zs ++ [y]) → OwnsI w4 w.heap.size v4 (zs ++ [y]) → (wr.grownBy w4 (some og)) → (v4.ownBlock = some og ∨ ∃ b, v4.ownBlock = some b ∧ wr.heap.size ≤ b) → (∃ g cap, v4 = .slice (some ⟨g, 0, none⟩) (zs.length + 1) cap) →
        ∃ g cap, v4 = .slice (some ⟨g, 0, none⟩) (zs.length + 1) cap ∧ g ≠ gs ∧ g ≠ hs ∧ Hid (Mrg A C i' k' (zs ++ [y]) ∧ OwnsI w4 w.heap.size (.slice (some ⟨g, 0, none⟩) (zs.length + 1) cap) (zs ++ [y]) ∧ OwnsI w4 w.heap.size (.slice (some ⟨gs, 0, none⟩) X cs) A ∧ OwnsI w4 w.heap.size (.slice (some ⟨hs, 0, none⟩) Y ct) C ∧ Below w.heap.size w w4 ∧ zs.length + 1 = (zs ++ [y]).length)) := HM
    clear HM
    by_cases hkl : k < Y
    · have hkc : k < C.length := by have := HY.out; omega
      have hk1 : (k : Int) < (Y : Int) := by omega
      have d2 : decide ((Y : Int) ≤ (k : Int)) = false := by simp; omega
      have d3 : ¬ (Y : Int) ≤ (k : Int) := by omega
      obtain ⟨ib, io, hie, hib, f0⟩ := RowI.at HJ.out.2.2.2.1.row k hkc
      cases hie
      simp only [Nat.zero_add] at f0
      obtain ⟨z, hz⟩ : ∃ z, Hid (C[k] = z) := ⟨_, (rfl : C[k] = C[k])⟩
      rw [hz.out] at f0
      by_cases hil : i < X
      · have hik : i < A.length := by have := HX.out; omega
        have hi1 : (i : Int) < (X : Int) := by omega
        have d1 : decide ((i : Int) < (X : Int)) = true := by simpa using hi1
        obtain ⟨ib, io, hie, hib, e0⟩ := RowI.at HJ.out.2.2.1.row i hik
        cases hie
        simp only [Nat.zero_add] at e0
        obtain ⟨y, hy⟩ : ∃ y, Hid (A[i] = y) := ⟨_, (rfl : A[i] = A[i])⟩
        rw [hy.out] at e0
        have hAi : A[i] = y := hy.out
        have hCk : C[k] = z := hz.out
        rcases Int.lt_trichotomy y z with hyz | hyz | hyz
        · have d4 : decide (y < z) = true := by simpa using hyz
          clear hAi hCk
          have HO : Hid (∀ q, OwnsI (wr.drewN q) w.heap.size (.slice (some ⟨og, 0, none⟩) L oc) zs) := fun q => OwnsR.below HJ.out.2.1 (below_grown (grown_drewN wr q))
          have HMr : Hid (Mrg A C (i + 1) k (zs ++ [y])) := by
            have h1 := HJ.out.1.fromA HAs.out.1 HAs.out.2 hik (fun _ => by rw [hy.out, hz.out]; exact hyz)
            rw [hy.out] at h1
            exact h1
          go_wp2_with (first | (go_quiet (fail)) | (at_builtin; go_must (refine appendRA inC_len rfl _ _ 35 rfl w.heap.size 3 _ 8 Tryz.underlying35 Tryz.infoInt rfl (by decide) (HO.out _) y (inC_ones _) rfl (by first | rfl | (simp [Act.eval]; done)) hLl (by omega) hsz ?_); intro v4 w4 hown4 hg4 hat4 hv4; obtain ⟨g4, cap4, rfl⟩ := hv4))
          have hgq : wr.grownBy w4 (some og) := ⟨hg4.os, hg4.tape, hg4.output, hg4.size, hg4.block⟩
          obtain ⟨g, cap, hv, hng, hnh, HN⟩ := HMh.out y (i + 1) k _ w4 (by omega) (by omega) HMr.out hown4 hgq hat4 ⟨_, _, rfl⟩
          cases hv
          have HLq : Hid (L = zs.length) := HJ.out.2.2.2.2.2
          clear hown4 hg4 hat4 hgq HO HJ HMh HMr e0 f0
          go_wp2
          go_roundw
          case rel => exact ⟨(i + 1), by omega, k, by omega, g4, cap4, zs.length + 1, ⟨rfl, rfl, rfl⟩, by omega, by omega, hng, hnh, zs ++ [y], HN⟩
          case measure => simp [intOf]; omega
        · subst hyz
          have d4 : decide (y < y) = false := by simp
          have d5 : (y == y) = true := by simp
          clear hAi hCk
          have HO : Hid (∀ q, OwnsI (wr.drewN q) w.heap.size (.slice (some ⟨og, 0, none⟩) L oc) zs) := fun q => OwnsR.below HJ.out.2.1 (below_grown (grown_drewN wr q))
          have HMr : Hid (Mrg A C (i + 1) (k + 1) (zs ++ [y])) := by
            have h1 := HJ.out.1.both HAs.out.1 HAs.out.2 hik hkc (by rw [hy.out, hz.out])
            rw [hz.out] at h1
            exact h1
          go_wp2_with (first | (go_quiet (fail)) | (at_builtin; go_must (refine appendRA inC_len rfl _ _ 35 rfl w.heap.size 3 _ 8 Tryz.underlying35 Tryz.infoInt rfl (by decide) (HO.out _) y (inC_ones _) rfl (by first | rfl | (simp [Act.eval]; done)) hLl (by omega) hsz ?_); intro v4 w4 hown4 hg4 hat4 hv4; obtain ⟨g4, cap4, rfl⟩ := hv4))
          have hgq : wr.grownBy w4 (some og) := ⟨hg4.os, hg4.tape, hg4.output, hg4.size, hg4.block⟩
          obtain ⟨g, cap, hv, hng, hnh, HN⟩ := HMh.out y (i + 1) (k + 1) _ w4 (by omega) (by omega) HMr.out hown4 hgq hat4 ⟨_, _, rfl⟩
          cases hv
          have HLq : Hid (L = zs.length) := HJ.out.2.2.2.2.2
          clear hown4 hg4 hat4 hgq HO HJ HMh HMr e0 f0
          go_wp2
          go_roundw
          case rel => exact ⟨(i + 1), by omega, (k + 1), by omega, g4, cap4, zs.length + 1, ⟨rfl, rfl, rfl⟩, by omega, by omega, hng, hnh, zs ++ [y], HN⟩
          case measure => simp [intOf]; omega
        · have d4 : decide (y < z) = false := by simp; omega
          have d5 : (y == z) = false := by simp; omega
          have d6 : ¬ y < z := by omega
          have d7 : ¬ y = z := by omega
          clear hAi hCk
          have HO : Hid (∀ q, OwnsI (wr.drewN q) w.heap.size (.slice (some ⟨og, 0, none⟩) L oc) zs) := fun q => OwnsR.below HJ.out.2.1 (below_grown (grown_drewN wr q))
          have HMr : Hid (Mrg A C i (k + 1) (zs ++ [z])) := by
            have h1 := HJ.out.1.fromB HAs.out.1 HAs.out.2 hkc (fun _ => by rw [hy.out, hz.out]; exact hyz)
            rw [hz.out] at h1
            exact h1
          go_wp2_with (first | (go_quiet (fail)) | (at_builtin; go_must (refine appendRA inC_len rfl _ _ 35 rfl w.heap.size 3 _ 8 Tryz.underlying35 Tryz.infoInt rfl (by decide) (HO.out _) z (inC_ones _) rfl (by first | rfl | (simp [Act.eval]; done)) hLl (by omega) hsz ?_); intro v4 w4 hown4 hg4 hat4 hv4; obtain ⟨g4, cap4, rfl⟩ := hv4))
          have hgq : wr.grownBy w4 (some og) := ⟨hg4.os, hg4.tape, hg4.output, hg4.size, hg4.block⟩
          obtain ⟨g, cap, hv, hng, hnh, HN⟩ := HMh.out z i (k + 1) _ w4 (by omega) (by omega) HMr.out hown4 hgq hat4 ⟨_, _, rfl⟩
          cases hv
          have HLq : Hid (L = zs.length) := HJ.out.2.2.2.2.2
          clear hown4 hg4 hat4 hgq HO HJ HMh HMr e0 f0
          go_wp2
          go_roundw
          case rel => exact ⟨i, by omega, (k + 1), by omega, g4, cap4, zs.length + 1, ⟨rfl, rfl, rfl⟩, by omega, by omega, hng, hnh, zs ++ [z], HN⟩
          case measure => simp [intOf]; omega
      · have hi1 : ¬ (i : Int) < (X : Int) := by omega
        have d1 : decide ((i : Int) < (X : Int)) = false := by simp; omega
        have HO : Hid (∀ q, OwnsI (wr.drewN q) w.heap.size (.slice (some ⟨og, 0, none⟩) L oc) zs) := fun q => OwnsR.below HJ.out.2.1 (below_grown (grown_drewN wr q))
        have HMr : Hid (Mrg A C i (k + 1) (zs ++ [z])) := by
          have h1 := HJ.out.1.fromB HAs.out.1 HAs.out.2 hkc (fun _ => by have := HX.out; omega)
          rw [hz.out] at h1
          exact h1
        go_wp2_with (first | (go_quiet (fail)) | (at_builtin; go_must (refine appendRA inC_len rfl _ _ 35 rfl w.heap.size 3 _ 8 Tryz.underlying35 Tryz.infoInt rfl (by decide) (HO.out _) z (inC_ones _) rfl (by first | rfl | (simp [Act.eval]; done)) hLl (by omega) hsz ?_); intro v4 w4 hown4 hg4 hat4 hv4; obtain ⟨g4, cap4, rfl⟩ := hv4))
        have hgq : wr.grownBy w4 (some og) := ⟨hg4.os, hg4.tape, hg4.output, hg4.size, hg4.block⟩
        obtain ⟨g, cap, hv, hng, hnh, HN⟩ := HMh.out z i (k + 1) _ w4 (by omega) (by omega) HMr.out hown4 hgq hat4 ⟨_, _, rfl⟩
        cases hv
        have HLq : Hid (L = zs.length) := HJ.out.2.2.2.2.2
        clear hown4 hg4 hat4 hgq HO HJ HMh HMr f0
        go_wp2
        go_roundw
        case rel => exact ⟨i, by omega, (k + 1), by omega, g4, cap4, zs.length + 1, ⟨rfl, rfl, rfl⟩, by omega, by omega, hng, hnh, zs ++ [z], HN⟩
        case measure => simp [intOf]; omega
    · by_cases hil : i < X
      · have hik : i < A.length := by have := HX.out; omega
        have hi1 : (i : Int) < (X : Int) := by omega
        have hk1 : ¬ (k : Int) < (Y : Int) := by omega
        obtain ⟨ib, io, hie, hib, e0⟩ := RowI.at HJ.out.2.2.1.row i hik
        cases hie
        simp only [Nat.zero_add] at e0
        obtain ⟨y, hy⟩ : ∃ y, Hid (A[i] = y) := ⟨_, (rfl : A[i] = A[i])⟩
        rw [hy.out] at e0
        have d1 : decide ((i : Int) < (X : Int)) = true := by simpa using hi1
        have d2 : decide ((Y : Int) ≤ (k : Int)) = true := by simp; omega
        have d3 : (Y : Int) ≤ (k : Int) := by omega
        have HO : Hid (∀ q, OwnsI (wr.drewN q) w.heap.size (.slice (some ⟨og, 0, none⟩) L oc) zs) := fun q => OwnsR.below HJ.out.2.1 (below_grown (grown_drewN wr q))
        have HMr : Hid (Mrg A C (i + 1) k (zs ++ [y])) := by
          have h1 := HJ.out.1.fromA HAs.out.1 HAs.out.2 hik (fun hk => by have := HY.out; omega)
          rw [hy.out] at h1
          exact h1
        go_wp2_with (first | (go_quiet (fail)) | (at_builtin; go_must (refine appendRA inC_len rfl _ _ 35 rfl w.heap.size 3 _ 8 Tryz.underlying35 Tryz.infoInt rfl (by decide) (HO.out _) y (inC_ones _) rfl (by first | rfl | (simp [Act.eval]; done)) hLl (by omega) hsz ?_); intro v4 w4 hown4 hg4 hat4 hv4; obtain ⟨g4, cap4, rfl⟩ := hv4))
        have hgq : wr.grownBy w4 (some og) := ⟨hg4.os, hg4.tape, hg4.output, hg4.size, hg4.block⟩
        obtain ⟨g, cap, hv, hng, hnh, HN⟩ := HMh.out y (i + 1) k _ w4 (by omega) (by omega) HMr.out hown4 hgq hat4 ⟨_, _, rfl⟩
        cases hv
        have HLq : Hid (L = zs.length) := HJ.out.2.2.2.2.2
        clear hown4 hg4 hat4 hgq HO HJ HMh HMr e0 
        go_wp2
        go_roundw
        case rel => exact ⟨(i + 1), by omega, k, by omega, g4, cap4, zs.length + 1, ⟨rfl, rfl, rfl⟩, by omega, by omega, hng, hnh, zs ++ [y], HN⟩
        case measure => simp [intOf]; omega
      · have HZ : Hid (zs = allL A C) := HJ.out.1.done (by have := HX.out; omega) (by have := HY.out; omega)
        have hi1 : ¬ (i : Int) < (X : Int) := by omega
        have hk1 : ¬ (k : Int) < (Y : Int) := by omega
        have HQ : Hid (OwnsI wr w.heap.size (.slice (some ⟨og, 0, none⟩) L oc) zs ∧ Below w.heap.size w wr ∧ L = zs.length ∧ zs.length ≤ 2097152) := ⟨HJ.out.2.1, HJ.out.2.2.2.2.1, HJ.out.2.2.2.2.2, by have := HJ.out.1.len; omega⟩
        clear HMh HJ
        go_wp2
        go_ret
        refine ⟨⟨og, oc, ?_, ?_, ?_⟩, HQ.out.2.1⟩
        · rw [← HZ.out, ← HQ.out.2.2.1]
          rfl
        · rw [← HZ.out, ← HQ.out.2.2.1]
          exact HQ.out.1
        · rw [← HZ.out]
          exact HQ.out.2.2.2

end Go.Proofs.YtjafneaaefpefaaGreat

namespace Go.Proofs.YtjafneaaefpefaaGreat
open Go.RowKit

theorem l07Uses_any (k : Int) (w : World) :
    Calls Tryz.prog 32 #[.int .i64 k] w fun e w' => e = .returned (.bool (usesK k)) ∧ w' = w := by
  by_cases h2 : k = 2
  · subst h2
    go_enter Tryz.func32, Tryz.ntmps32
    go_wp2
    go_ret
    exact ⟨rfl, rfl⟩
  by_cases h3 : k = 3
  · subst h3
    go_enter Tryz.func32, Tryz.ntmps32
    go_wp2
    go_ret
    exact ⟨rfl, rfl⟩
  by_cases h4 : k = 4
  · subst h4
    go_enter Tryz.func32, Tryz.ntmps32
    go_wp2
    go_ret
    exact ⟨rfl, rfl⟩
  by_cases h5 : k = 5
  · subst h5
    go_enter Tryz.func32, Tryz.ntmps32
    go_wp2
    go_ret
    exact ⟨rfl, rfl⟩
  by_cases h6 : k = 6
  · subst h6
    go_enter Tryz.func32, Tryz.ntmps32
    go_wp2
    go_ret
    exact ⟨rfl, rfl⟩
  by_cases h14 : k = 14
  · subst h14
    go_enter Tryz.func32, Tryz.ntmps32
    go_wp2
    go_ret
    exact ⟨rfl, rfl⟩
  by_cases h15 : k = 15
  · subst h15
    go_enter Tryz.func32, Tryz.ntmps32
    go_wp2
    go_ret
    exact ⟨rfl, rfl⟩
  have hE : Hid (usesK k = false) := by
    show _ = _
    simp [usesK, h2, h3, h4, h5, h6, h14, h15]
  rw [hE.out]
  go_enter Tryz.func32, Tryz.ntmps32
  go_wp2
  go_ret
  exact ⟨rfl, rfl⟩

theorem Box.grown {w wr wn : World} {o : Obj} {r : Option Nat} (h : Box w o wr) (hg : wr.grownBy wn r) (hr : ∀ k, r = some k → w.heap.size + 1 ≤ k) : Box w o wn :=
  ⟨h.b.grown hg (by have := h.lt; omega) hr⟩

set_option maxRecDepth 100000 in
set_option maxHeartbeats 6400000 in
theorem specUsesOf_any (v0 v1 : Value) (p : Pg) (fn : Int) (nm : ByteArray) (w : World) (hR : RowPg w w.heap.size v0 v1 p) (hl : szPg p ≤ 1048576) :
    Calls Tryz.prog 10 #[.agg #[v0, v1], .int .i64 fn, .string nm] w fun e w' => (∃ g cap, e = .returned (.slice (some ⟨g, 0, none⟩) (usesOf p fn nm).length cap) ∧ OwnsI w' w.heap.size (.slice (some ⟨g, 0, none⟩) (usesOf p fn nm).length cap) (usesOf p fn nm) ∧ (usesOf p fn nm).length ≤ 2097152) ∧ Below w.heap.size w w' := by
  obtain ⟨na, nc, rfl⟩ := hR.1.len
  obtain ⟨N, HN⟩ : ∃ N, Hid (p.nodes.length = N) := ⟨_, (rfl : p.nodes.length = p.nodes.length)⟩
  have HV : Hid (NdR.Row w w.heap.size (.slice na N nc) p.nodes ∧ RowPg w w.heap.size (.slice na N nc) v1 p) := by rw [← HN.out]; exact ⟨hR.1, hR⟩
  obtain ⟨zs, hzs⟩ : ∃ zs, Hid (allOf p fn = zs) := ⟨_, (rfl : allOf p fn = allOf p fn)⟩
  obtain ⟨X, HX⟩ : ∃ X, Hid (zs.length = X) := ⟨_, (rfl : zs.length = zs.length)⟩
  have cA : Hid (∀ W, Below w.heap.size w W → Calls Tryz.prog 31 #[.agg #[.slice na N nc, v1], .int .i64 fn] W fun e w' => (∃ g cap, e = .returned (.slice (some ⟨g, 0, none⟩) X cap) ∧ OwnsI w' W.heap.size (.slice (some ⟨g, 0, none⟩) X cap) zs ∧ X ≤ 2097152) ∧ Below W.heap.size W w') := fun W hW => by
    have h1 := l07All_any _ _ p fn W ((HV.out.2.keep hW).up hW.size) hl
    rw [hzs.out, HX.out] at h1
    exact h1
  have HIn : Hid (∀ x ∈ zs, 0 ≤ x ∧ x < (p.nodes.length : Int)) := fun x hx => by
    rw [← hzs.out] at hx
    exact allOf_in hx
  have HE : Hid (usesOf p fn nm = usesF p.nodes nm zs) := by
    show _ = _
    unfold usesOf
    rw [hzs.out]
  rw [HE.out, HN.out]
  clear hR hl
  go_enter Tryz.func10, Tryz.ntmps10
  go_wp2_with fail
  go_at_call 31
  refine Calls.mono (cA.out _ (by go_grown)) ?_
  rintro e w3 ⟨⟨gs, cs, rfl, hos, hxl⟩, hb3⟩
  have B3 : Hid (Box w (.cells #[.slice na N nc, v1] 31) w3) := ((Box.first _ _).alloc _).next hb3
  have hgs : w.heap.size + 2 ≤ gs := by
    have h1 := (OwnsR.lt hos gs (by simp [fpOf, Value.ownBlock])).1
    simp at h1
    omega
  have O3 : Hid (OwnsI w3 (w.heap.size + 1) (.slice (some ⟨w.heap.size + 1, 0, none⟩) 0 0) [] ∧ OwnsI w3 (w.heap.size + 1) (.slice (some ⟨gs, 0, none⟩) X cs) zs) := by
    have HO := OwnsR.below (owns_empty (w.alloc (.cells #[.slice na N nc, v1] 31))).out hb3
    have hz : (w.alloc (.cells #[.slice na N nc, v1] 31)).heap.size = w.heap.size + 1 := by simp
    rw [hz] at HO
    refine ⟨HO, owns_base hos ?_⟩
    simp
  clear hos hb3 cA
  go_wp2_with fail
  go_loopw [7, 9] (fun o i wr => ∃ (s og oc L : Nat), s ≤ X ∧ i = .int .i64 (s : Int) ∧ o = .slice (some ⟨og, 0, none⟩) L oc ∧ og ≠ gs ∧ Hid (Box w (.cells #[.slice na N nc, v1] 31) wr ∧ OwnsI wr (w.heap.size + 1) (.slice (some ⟨og, 0, none⟩) L oc) (usesF p.nodes nm (zs.take s)) ∧ OwnsI wr (w.heap.size + 1) (.slice (some ⟨gs, 0, none⟩) X cs) zs ∧ L = (usesF p.nodes nm (zs.take s)).length)) (fun _ i _ => X - (intOf i).toNat)
  case atStart => exact ⟨0, _, _, 0, Nat.zero_le _, rfl, rfl, by omega, B3.out, O3.out.1, O3.out.2, rfl⟩
  case round =>
    obtain ⟨s, og, oc, L, hs, rfl, rfl, hog, HQ⟩ := hrel
    clear B3 O3
    have x0 := HQ.out.1.cell 0
    simp at x0
    have hsz : w.heap.size + 1 ≤ wr.heap.size := HQ.out.1.lt
    by_cases hsl : s < X
    · have hs0 : (0 : Int) ≤ (s : Int) := by omega
      have hs1 : (s : Int) < (X : Int) := by omega
      have hsx : s < zs.length := by have := HX.out; omega
      obtain ⟨ib, io, hie, hib, e0⟩ := RowI.at HQ.out.2.2.1.row s hsx
      cases hie
      simp only [Nat.zero_add] at e0
      have hxj := HIn.out zs[s] (List.getElem_mem hsx)
      obtain ⟨j, hj⟩ : ∃ j : Nat, Hid (zs[s] = (j : Int)) := ⟨zs[s].toNat, (by show _ = _; omega)⟩
      rw [hj.out] at e0 hxj
      have hjN : j < N := by have := HN.out; omega
      have hjl : j < p.nodes.length := by have := HN.out; omega
      have hj0 : (0 : Int) ≤ (j : Int) := by omega
      have hj1 : (j : Int) < (N : Int) := by omega
      have hLT : Hid (usesF p.nodes nm (zs.take (s + 1)) = usesF p.nodes nm (zs.take s) ++ (if usesB p.nodes nm (j : Int) = true then [(j : Int)] else [])) := by
        show _ = _
        rw [usesF_take p.nodes nm zs s hsx, hj.out]
      obtain ⟨nb, no, ka, kc, rfl, hnb, n0, n1, n2, n3, _⟩ := RowNd.at HV.out.1 j hjl
      have hub : usesB p.nodes nm (j : Int) = (usesK p.nodes[j].kind && sameB p.nodes[j].name nm) := by
        unfold usesB
        rw [Int.toNat_natCast]
        simp [List.getD, hjl]
      rw [hub] at hLT
      obtain ⟨nx, hnx⟩ : ∃ nx, Hid (p.nodes[j].name = nx) := ⟨_, (rfl : p.nodes[j].name = p.nodes[j].name)⟩
      obtain ⟨kx, hkx⟩ : ∃ kx, Hid (p.nodes[j].kind = kx) := ⟨_, (rfl : p.nodes[j].kind = p.nodes[j].kind)⟩
      rw [hkx.out, hnx.out] at hLT
      rw [hkx.out] at n0
      rw [hnx.out] at n2
      have d0 := (HQ.out.1.below.cell (p := ⟨nb, no + j * 4, none⟩) hnb).trans n0
      have d2 := (HQ.out.1.below.cell (p := ⟨nb, no + j * 4 + 2, none⟩) hnb).trans n2
      clear n0 n1 n2 n3 hub hxj
      have cK : Hid (∀ W, Calls Tryz.prog 32 #[.int .i64 kx] W fun e w' => e = .returned (.bool (usesK kx)) ∧ w' = W) := fun W => l07Uses_any kx W
      cases hu : usesK kx
      · rw [hu] at hLT cK
        have HJ5 : Hid (∀ q, Box w (.cells #[.slice (some ⟨nb, no, none⟩) N nc, v1] 31) (wr.drewN q) ∧ OwnsI (wr.drewN q) (w.heap.size + 1) (.slice (some ⟨og, 0, none⟩) L oc) (usesF p.nodes nm (zs.take (s + 1))) ∧ OwnsI (wr.drewN q) (w.heap.size + 1) (.slice (some ⟨gs, 0, none⟩) X cs) zs ∧ L = (usesF p.nodes nm (zs.take (s + 1))).length) := fun q => by
          have h1 := hLT.out
          simp at h1
          rw [h1]
          exact ⟨HQ.out.1.grown (grown_drewN wr q) (by simp), OwnsR.below HQ.out.2.1 (below_grown (grown_drewN wr q)), OwnsR.below HQ.out.2.2.1 (below_grown (grown_drewN wr q)), HQ.out.2.2.2⟩
        clear HQ hLT
        go_wp2_with (first | (go_quiet ((go_at_call 32; refine Calls.quiet_of_same (cK.out _)))))
        go_roundw
        case rel => exact ⟨s + 1, og, oc, L, by omega, by go_num, rfl, hog, HJ5.out _⟩
        case measure => simp [intOf]; omega
      · cases hn : sameB nx nm
        · rw [hu, hn] at hLT
          rw [hu] at cK
          have HJ5 : Hid (∀ q, Box w (.cells #[.slice (some ⟨nb, no, none⟩) N nc, v1] 31) (wr.drewN q) ∧ OwnsI (wr.drewN q) (w.heap.size + 1) (.slice (some ⟨og, 0, none⟩) L oc) (usesF p.nodes nm (zs.take (s + 1))) ∧ OwnsI (wr.drewN q) (w.heap.size + 1) (.slice (some ⟨gs, 0, none⟩) X cs) zs ∧ L = (usesF p.nodes nm (zs.take (s + 1))).length) := fun q => by
            have h1 := hLT.out
            simp at h1
            rw [h1]
            exact ⟨HQ.out.1.grown (grown_drewN wr q) (by simp), OwnsR.below HQ.out.2.1 (below_grown (grown_drewN wr q)), OwnsR.below HQ.out.2.2.1 (below_grown (grown_drewN wr q)), HQ.out.2.2.2⟩
          clear HQ hLT
          unfold sameB at hn
          go_wp2_with (first | (go_quiet ((go_at_call 32; refine Calls.quiet_of_same (cK.out _)))))
          go_roundw
          case rel => exact ⟨s + 1, og, oc, L, by omega, by go_num, rfl, hog, HJ5.out _⟩
          case measure => simp [intOf]; omega
        · rw [hu, hn] at hLT
          rw [hu] at cK
          have HNx : Hid (usesF p.nodes nm (zs.take (s + 1)) = usesF p.nodes nm (zs.take s) ++ [(j : Int)]) := by
            have h1 := hLT.out
            simp at h1
            exact h1
          have hpl : (usesF p.nodes nm (zs.take s)).length ≤ 10000000 := by
            have h1 : (usesF p.nodes nm (zs.take s)).length ≤ (zs.take s).length := List.length_filter_le _ _
            rw [List.length_take] at h1
            omega
          have HO : Hid (∀ q, OwnsI (wr.drewN q) (w.heap.size + 1) (.slice (some ⟨og, 0, none⟩) L oc) (usesF p.nodes nm (zs.take s))) := fun q => OwnsR.below HQ.out.2.1 (below_grown (grown_drewN wr q))
          clear hLT
          unfold sameB at hn
          go_wp2_with (first | (go_quiet ((go_at_call 32; refine Calls.quiet_of_same (cK.out _)))) | (at_builtin; go_must (refine appendRA inC_len rfl _ _ 35 rfl (w.heap.size + 1) 3 _ 8 Tryz.underlying35 Tryz.infoInt rfl (by decide) (HO.out _) (j : Int) (inC_ones _) rfl (by first | rfl | (simp [Act.eval]; done)) hpl (by omega) hsz ?_); intro v5 w5 hown5 hg5 hat5 hv5; obtain ⟨g5, cap5, rfl⟩ := hv5))
          have hgq : wr.grownBy w5 (some og) := ⟨hg5.os, hg5.tape, hg5.output, hg5.size, hg5.block⟩
          have hol := (OwnsR.lt HQ.out.2.1 og (by simp [fpOf, Value.ownBlock])).1
          have hgl := (OwnsR.lt HQ.out.2.2.1 gs (by simp [fpOf, Value.ownBlock])).2
          have hng : g5 ≠ gs := by
            rcases hat5 with h6 | ⟨b', h6, h7⟩
            · have : g5 = og := by simpa [Value.ownBlock] using h6
              subst this
              exact hog
            · have : g5 = b' := by simpa [Value.ownBlock] using h6
              subst this
              have h8 : wr.heap.size ≤ g5 := h7
              omega
          have HJ5 : Hid (Box w (.cells #[.slice (some ⟨nb, no, none⟩) N nc, v1] 31) w5 ∧ OwnsI w5 (w.heap.size + 1) (.slice (some ⟨g5, 0, none⟩) ((usesF p.nodes nm (zs.take s)).length + 1) cap5) (usesF p.nodes nm (zs.take (s + 1))) ∧ OwnsI w5 (w.heap.size + 1) (.slice (some ⟨gs, 0, none⟩) X cs) zs ∧ (usesF p.nodes nm (zs.take s)).length + 1 = (usesF p.nodes nm (zs.take (s + 1))).length) := by
            rw [HNx.out]
            refine ⟨HQ.out.1.grown hgq (fun k hk => by have : k = og := by simpa using hk.symm
                                                       omega), hown5, OwnsR.kept HQ.out.2.2.1 hgq (.inr ?_), by simp⟩
            simp [Value.ownBlock]
            exact fun e => hog e.symm
          have HLq : Hid (L = (usesF p.nodes nm (zs.take s)).length) := HQ.out.2.2.2
          clear hown5 hg5 hat5 hgq HO HQ HNx e0 d0 d2 x0
          go_wp2
          go_roundw
          case rel => exact ⟨s + 1, g5, cap5, (usesF p.nodes nm (zs.take s)).length + 1, by omega, by go_num, rfl, hng, HJ5⟩
          case measure => simp [intOf]; omega
    · have HZ : Hid (OwnsI wr (w.heap.size + 1) (.slice (some ⟨og, 0, none⟩) L oc) (usesF p.nodes nm zs) ∧ Below w.heap.size w wr ∧ (usesF p.nodes nm zs).length = L ∧ L ≤ 2097152) := by
        have h1 := HQ.out
        rw [List.take_of_length_le (by have := HX.out; omega)] at h1
        refine ⟨h1.2.1, h1.1.below, h1.2.2.2.symm, ?_⟩
        have h2 : (usesF p.nodes nm zs).length ≤ zs.length := List.length_filter_le _ _
        have := HX.out
        have := h1.2.2.2
        omega
      clear HQ x0
      go_wp2
      go_ret
      refine ⟨⟨og, oc, ?_, ?_, ?_⟩, HZ.out.2.1⟩
      · rw [HZ.out.2.2.1]
        rfl
      · rw [HZ.out.2.2.1]
        exact owns_base HZ.out.1 (by omega)
      · rw [HZ.out.2.2.1]
        exact HZ.out.2.2.2

end Go.Proofs.YtjafneaaefpefaaGreat
