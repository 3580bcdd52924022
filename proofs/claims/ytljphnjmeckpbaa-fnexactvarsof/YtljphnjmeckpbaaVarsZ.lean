/-
  VarsOf, in the model: params, then what is let under the Body.
  Under, in the program: what it answers at every program and every place.
  strings.Clone: the same text, in new memory.
  VarsOf, in the program: params, then what is let under the Body, each with a name of its own.
  Rows of Var marked, as the laws do it. Written by mkmark.py.
  Rows of Var that were marked, looked at again, as the laws do it. Written by mkheld.py.
  Rows of Node marked, as the laws do it. Written by mkmark.py.
  Rows of Param marked, as the laws do it. Written by mkmark.py.
  Rows of Fn marked, as the laws do it. Written by mkmark.py.
  Programs marked, as the laws do it: only blocks of the program turn.
  The law of VarsOf: at every program and every place it answers true.
  A program that came in, opened.
-/
import Derived.Test.YtljphnjmeckpbaaUnderS
import Derived.Test.YtljphnjmeckpbaaRowVar
import Derived.Test.YtljphnjmeckpbaaPlain33
import Derived.Test.YtljphnjmeckpbaaAppRA
import Derived.Test.YtljphnjmeckpbaaChecked
import Derived.Test.YtljphnjmeckpbaaKit
import Derived.Test.YtljphnjmeckpbaaShelf
import Derived.Test.YtljphnjmeckpbaaMarkInt
import Derived.Test.YtljphnjmeckpbaaRowNode
import Derived.Test.YtljphnjmeckpbaaRowParam
import Derived.Test.YtljphnjmeckpbaaRowFn
import Derived.Test.YtljphnjmeckpbaaRowProgram
import Derived.Test.YtljphnjmeckpbaaBox
namespace Go.Proofs.Ytljphnjmeckpbaa
open Go.RowKit

/-- A row of vars that the call owns. -/
def OwnsV (w : World) (B : Nat) (v : Value) (xs : List Vr) : Prop := OwnsR vrC 3 w B 53 v xs
theorem cell_eq {w w' : World} {b : Nat} (h : w'.heap[b]? = w.heap[b]?) (j : Nat) : w'.cell? ⟨b, j, none⟩ = w.cell? ⟨b, j, none⟩ := by
  simp only [World.cell?, h]
theorem isIn_iff (x a b : Int) : isIn x a b = true ↔ a ≤ x ∧ x ≤ b := by simp [isIn]
theorem vrC_len (x : Vr) : (vrC x).length = 3 := rfl
theorem vrC_ones (x : Vr) : ∀ u ∈ vrC x, u.oneCell' = true := by
  intro u hu
  simp [vrC] at hu
  rcases hu with rfl | rfl | rfl <;> rfl
theorem owns_emptyV (w : World) : OwnsV (w.alloc (.cells #[] 53)) w.heap.size (.slice (some ⟨w.heap.size, 0, none⟩) 0 0) [] :=
  ⟨rfl, .inr ⟨w.heap.size, 0, #[], rfl, Nat.le_refl _, heap_alloc_new _ _, Nat.le_refl _, Nat.zero_le _, rfl, rfl⟩⟩
theorem underAns_L (ns : List Nd) (k : Int) : UnderAns ns k (underL ns k) := by
  rcases underL_ans ns k with h | h
  · exact .inl h
  · exact .inr h
theorem OwnsV.form {w : World} {B : Nat} {v : Value} {xs : List Vr} (h : OwnsV w B v xs) (hx : xs ≠ []) : ∃ g cap, v = .slice (some ⟨g, 0, none⟩) xs.length cap := by
  rcases OwnsR.form h with ⟨_, h0⟩ | ⟨g, cap, h1, _⟩
  · exact absurd h0 hx
  · exact ⟨g, cap, h1⟩

theorem OwnsI.blk {w : World} {B g n cap : Nat} {xs : List Int} (h : OwnsI w B (.slice (some ⟨g, 0, none⟩) n cap) xs) : ∃ cs : Array Value, w.heap[g]? = some (.cells cs 3 (0, 0)) := by
  obtain ⟨_, h2⟩ := h
  rcases h2 with ⟨h0, _⟩ | ⟨g', cap', cur, hv, _, hg', _⟩
  · cases h0
  · cases hv
    exact ⟨_, hg'⟩
theorem OwnsV.ne {w : World} {B g : Nat} {v : Value} {xs : List Vr} {cs : Array Value} {T : TypeId} {fr : Nat × Nat} (h : OwnsV w B v xs) (hg : w.heap[g]? = some (.cells cs T fr)) (hT : T ≠ 53) : some g ≠ v.ownBlock := by
  intro e
  obtain ⟨_, h2⟩ := h
  rcases h2 with ⟨rfl, _⟩ | ⟨g', cap, cur, rfl, _, hg', _⟩
  · simp [Value.ownBlock] at e
  · have : g = g' := by simpa [Value.ownBlock] using e
    subst this
    rw [hg] at hg'
    injection hg' with h1
    injection h1 with _ h2
    exact hT h2

/-- Where VarsOf stands: what it has gathered, and the blocks that it made ahead. -/
structure VSt (w : World) (g2 : Nat) (bo fo : Array Value) (Tb Tf : TypeId) (wr : World) (o : Value) (xs : List Vr) : Prop where
  own : OwnsV wr w.heap.size o xs
  bel : Below w.heap.size w wr
  box : wr.heap[w.heap.size]? = some (.cells bo Tb (0, 0))
  blk : wr.heap[g2]? = some (.cells fo Tf (0, 0))
  nb : Tb ≠ 53
  nf : Tf ≠ 53
theorem VSt.lt2 {w : World} {g2 : Nat} {bo fo : Array Value} {Tb Tf : TypeId} {wr : World} {o : Value} {xs : List Vr} (h : VSt w g2 bo fo Tb Tf wr o xs) : g2 < wr.heap.size := by
  rcases Nat.lt_or_ge g2 wr.heap.size with h' | h'
  · exact h'
  · have := h.blk
    simp [Array.getElem?_eq_none h'] at this
theorem VSt.lt {w : World} {g2 : Nat} {bo fo : Array Value} {Tb Tf : TypeId} {wr : World} {o : Value} {xs : List Vr} (h : VSt w g2 bo fo Tb Tf wr o xs) : w.heap.size < wr.heap.size := by
  rcases Nat.lt_or_ge w.heap.size wr.heap.size with h' | h'
  · exact h'
  · have := h.box
    simp [Array.getElem?_eq_none h'] at this
theorem VSt.below {w : World} {g2 : Nat} {bo fo : Array Value} {Tb Tf : TypeId} {wr wn : World} {o : Value} {xs : List Vr} (h : VSt w g2 bo fo Tb Tf wr o xs) (hb : Below wr.heap.size wr wn) : VSt w g2 bo fo Tb Tf wn o xs :=
  ⟨OwnsR.below h.own hb, h.bel.trans (hb.mono h.bel.size), (hb.block _ h.lt).trans h.box, (hb.block _ h.lt2).trans h.blk, h.nb, h.nf⟩
theorem VSt.grown {w : World} {g2 : Nat} {bo fo : Array Value} {Tb Tf : TypeId} {wr wn : World} {o o2 : Value} {xs ys : List Vr} (h : VSt w g2 bo fo Tb Tf wr o xs) (hg : wr.grownBy wn o.ownBlock) (ho : OwnsV wn w.heap.size o2 ys) : VSt w g2 bo fo Tb Tf wn o2 ys :=
  ⟨ho, h.bel.grown hg h.bel.size (fun k hk => (OwnsR.lt h.own k (by simp [fpOf, hk])).1), (hg.block _ h.lt (h.own.ne h.box h.nb)).trans h.box, (hg.block _ h.lt2 (h.own.ne h.blk h.nf)).trans h.blk, h.nb, h.nf⟩

set_option maxRecDepth 100000 in
set_option maxHeartbeats 6400000 in
theorem specVarsOf_any (v0 v1 : Value) (p : Pg) (fn : Int) (w : World) (hR : RowPg w w.heap.size v0 v1 p) (hl : szPg p ≤ 1048576) :
    Calls Try.prog 6 #[.agg #[v0, v1], .int .i64 fn] w fun e w' => (∃ g cap, e = .returned (.slice (some ⟨g, 0, none⟩) (varsOf p fn).length cap) ∧ OwnsV w' w.heap.size (.slice (some ⟨g, 0, none⟩) (varsOf p fn).length cap) (varsOf p fn) ∧ (varsOf p fn).length ≤ 2097152) ∧ Below w.heap.size w w' := by
  obtain ⟨na, nc, rfl⟩ := hR.1.len
  obtain ⟨fa, fcap, rfl⟩ := hR.2.len
  obtain ⟨N, HN⟩ : ∃ N, Hid (p.nodes.length = N) := ⟨_, (rfl : p.nodes.length = p.nodes.length)⟩
  obtain ⟨F, HF⟩ : ∃ N, Hid (p.fns.length = N) := ⟨_, (rfl : p.fns.length = p.fns.length)⟩
  have HV : Hid (RowPg w w.heap.size (.slice na N nc) (.slice fa F fcap) p) := by rw [← HN.out, ← HF.out]; exact hR
  have HL : Hid (szRow szNd p.nodes ≤ 1048576 ∧ szRow szFc p.fns ≤ 1048576) := ⟨Nat.le_trans (le_szPg_nodes p) hl, Nat.le_trans (le_szPg_fns p) hl⟩
  have hNl : N ≤ 1048576 := by have := len_szRow szNd p.nodes; have := HN.out; have := HL.out.1; omega
  have hFl : F ≤ 1048576 := by have := len_szRow szFc p.fns; have := HF.out; have := HL.out.2; omega
  rw [HN.out, HF.out]
  clear hR hl
  by_cases hin : 0 ≤ fn ∧ fn ≤ (F : Int) - 1
  rotate_left
  · have HE : Hid (varsOf p fn = []) := by
      show _ = _
      unfold varsOf
      rw [HF.out, if_neg]
      rw [isIn_iff]
      exact hin
    rw [HE.out]
    have cL : Hid (∀ W, Calls Try.prog 20 #[.int .i64 fn, .int .i64 0, .int .i64 ((F : Int) - 1)] W fun e w' => e = .returned (.bool false) ∧ w' = W) := fun W => l01In_no fn 0 ((F : Int) - 1) W (by omega)
    clear HV hin
    go_enter Try.func6, Try.ntmps6
    go_wp2_with fail
    go_at_call 20
    refine Calls.mono (cL.out _) ?_
    rintro e w1 ⟨rfl, rfl⟩
    have HO := owns_emptyV (w.alloc (.cells #[.slice na N nc, .slice fa F fcap] 32))
    go_wp2
    go_ret
    have hz : (w.alloc (.cells #[.slice na N nc, .slice fa F fcap] 32)).heap.size = w.heap.size + 1 := by simp
    rw [hz] at HO
    exact ⟨⟨_, _, rfl, owns_base HO (by omega), by simp⟩, by go_grown⟩
  obtain ⟨m, rfl⟩ : ∃ m : Nat, fn = (m : Int) := ⟨fn.toNat, by omega⟩
  have hmF : m < F := by omega
  have hmf : m < p.fns.length := by have := HF.out; omega
  have cL : Hid (∀ W, Calls Try.prog 20 #[.int .i64 (m : Int), .int .i64 0, .int .i64 ((F : Int) - 1)] W fun e w' => e = .returned (.bool true) ∧ w' = W) := fun W => l01In_yes (m : Int) 0 ((F : Int) - 1) W (by omega) (by omega)
  obtain ⟨b, off, pv, rfl, hb, c0, c1, c2, c3, c4, hP⟩ := FcR.at HV.out.2 m hmf
  have HE : Hid (varsOf p (m : Int) = varsIn p.nodes p.fns[m]) := by
    show _ = _
    unfold varsOf
    rw [HF.out, if_pos (by rw [isIn_iff]; omega)]
    simp [List.getD, hmf]
  have hqs : szFc p.fns[m] ≤ 1048576 := Nat.le_trans (mem_szRow szFc (List.getElem_mem hmf)) HL.out.2
  obtain ⟨q, hq⟩ : ∃ q, Hid (p.fns[m] = q) := ⟨_, (rfl : p.fns[m] = p.fns[m])⟩
  rw [hq.out] at c0 c2 c3 c4 hP HE hqs
  rw [HE.out]
  obtain ⟨fn, fp, fr, fb, ft⟩ := q
  obtain ⟨pa, pc, rfl⟩ := hP.len
  simp only at c0 c1 c2 c3 c4 hP
  have hK : fp.length ≤ 1048576 := by
    have h1 : szRow szPm fp ≤ szFc ⟨fn, fp, fr, fb, ft⟩ := le_szFc_params ⟨fn, fp, fr, fb, ft⟩
    have h2 := len_szRow szPm fp
    omega
  obtain ⟨K, HK⟩ : ∃ K, Hid (fp.length = K) := ⟨_, (rfl : fp.length = fp.length)⟩
  rw [HK.out] at c1 hP hK
  have HP : Hid (PmR.Row w w.heap.size (.slice pa K pc) fp) := hP
  have hkb : b < w.heap.size := hb
  have cU : Hid (∀ W, Below w.heap.size w W → Calls Try.prog 21 #[.agg #[.slice na N nc, .slice (some ⟨b, off, none⟩) F fcap], .int .i64 fb] W fun e w' => (∃ g cap, e = .returned (.slice (some ⟨g, 0, none⟩) (underL p.nodes fb).length cap) ∧ OwnsI w' W.heap.size (.slice (some ⟨g, 0, none⟩) (underL p.nodes fb).length cap) (underL p.nodes fb) ∧ (underL p.nodes fb).length ≤ 1048576) ∧ Below W.heap.size W w') := fun W hW => by
    refine (specUnder_any _ _ p.nodes fb W ((HV.out.1.keep hW).up hW.size) HL.out.1).mono ?_
    rintro e w' ⟨⟨g, cap, xs, he, ho, ha, hx⟩, hb⟩
    obtain rfl := underAns_one ha (underAns_L p.nodes fb)
    exact ⟨⟨g, cap, he, ho, hx⟩, hb⟩
  clear hb hqs hP
  go_enter Try.func6, Try.ntmps6
  go_wp2_with fail
  go_at_call 20
  refine Calls.mono (cL.out _) ?_
  rintro e w1 ⟨rfl, rfl⟩
  have H0 : Hid (VSt w (w.heap.size + 2) #[.slice na N nc, .slice (some ⟨b, off, none⟩) F fcap] #[.string fn, .slice pa K pc, .int .i64 fr, .int .i64 fb, .int .i64 ft] 32 49 (((w.alloc (.cells #[.slice na N nc, .slice (some ⟨b, off, none⟩) F fcap] 32)).alloc (.cells #[] 53)).alloc (.cells #[.string fn, .slice pa K pc, .int .i64 fr, .int .i64 fb, .int .i64 ft] 49)) (.slice (some ⟨w.heap.size + 1, 0, none⟩) 0 0) []) := by
    have HO := owns_emptyV (w.alloc (.cells #[.slice na N nc, .slice (some ⟨b, off, none⟩) F fcap] 32))
    have hz : (w.alloc (.cells #[.slice na N nc, .slice (some ⟨b, off, none⟩) F fcap] 32)).heap.size = w.heap.size + 1 := by simp
    rw [hz] at HO
    refine ⟨owns_base (OwnsR.below HO (by go_grown)) (by omega), by go_grown, ?_, ?_, by decide, by decide⟩
    · rw [Below.heap_alloc _ _ _ (by simp; omega), Below.heap_alloc _ _ _ (by simp)]
      exact heap_alloc_new _ _
    · exact third_new w _ _ _
  clear cL
  go_wp2_with fail
  go_loopw [5, 7] (fun o i wr => ∃ (t og oc : Nat), t ≤ K ∧ i = .int .i64 (t : Int) ∧ o = .slice (some ⟨og, 0, none⟩) t oc ∧ Hid (VSt w (w.heap.size + 2) #[.slice na N nc, .slice (some ⟨b, off, none⟩) F fcap] #[.string fn, .slice pa K pc, .int .i64 fr, .int .i64 fb, .int .i64 ft] 32 49 wr (.slice (some ⟨og, 0, none⟩) t oc) ((fp.take t).map parV))) (fun _ i _ => K - (intOf i).toNat)
  case atStart => exact ⟨0, _, _, Nat.zero_le _, rfl, rfl, H0.out⟩
  case round =>
    obtain ⟨t, og, oc, ht, rfl, rfl, HJ⟩ := hrel
    have f0 := cell_at HJ.out.blk 1
    simp at f0
    have hsz := HJ.out.bel.size
    by_cases hlt : t < K
    · have ht0 : (0 : Int) ≤ (t : Int) := by omega
      have ht1 : (t : Int) < (K : Int) := by omega
      have htp : t < fp.length := by have := HK.out; omega
      obtain ⟨pb, po, rfl, hpb, e0, e1⟩ := PmR.at HP.out t htp
      obtain ⟨x, hx⟩ : ∃ x, Hid (fp[t] = x) := ⟨_, (rfl : fp[t] = fp[t])⟩
      rw [hx.out] at e0 e1
      have d0 := (HJ.out.bel.cell (p := ⟨pb, po + t * 2, none⟩) hpb).trans e0
      have d1 := (HJ.out.bel.cell (p := ⟨pb, po + t * 2 + 1, none⟩) hpb).trans e1
      obtain ⟨xn, xt⟩ := x
      simp only at d0 d1
      have hpbr : pb < wr.heap.size := by omega
      have h2r := HJ.out.lt2
      have HNx : Hid ((fp.take (t + 1)).map parV = (fp.take t).map parV ++ [⟨xn, xt, -1⟩]) := by
        show _ = _
        rw [List.take_succ_eq_append_getElem htp, List.map_append, hx.out]
        rfl
      have hpl : ((fp.take t).map parV).length ≤ 10000000 := by
        rw [List.length_map, List.length_take]
        omega
      have hBA : Below wr.heap.size wr (wr.alloc (.cells #[.string xn, .int .i64 xt, .int .i64 (-1)] 53)).drew := by go_grown
      have HA : Hid (VSt w (w.heap.size + 2) #[.slice na N nc, .slice (some ⟨b, off, none⟩) F fcap] #[.string fn, .slice (some ⟨pb, po, none⟩) K pc, .int .i64 fr, .int .i64 fb, .int .i64 ft] 32 49 (wr.alloc (.cells #[.string xn, .int .i64 xt, .int .i64 (-1)] 53)).drew (.slice (some ⟨og, 0, none⟩) t oc) ((fp.take t).map parV)) := HJ.out.below hBA
      have hne2 : some (w.heap.size + 2) ≠ (Value.slice (some ⟨og, 0, none⟩) t oc).ownBlock := HJ.out.own.ne HJ.out.blk HJ.out.nf
      have hneb : some pb ≠ (Value.slice (some ⟨og, 0, none⟩) t oc).ownBlock := fun e => by have := (OwnsR.lt HJ.out.own pb (by simp [fpOf, ← e])).1; omega
      have hBs : w.heap.size ≤ (wr.alloc (.cells #[.string xn, .int .i64 xt, .int .i64 (-1)] 53)).drew.heap.size := HA.out.bel.size
      clear e0 e1
      go_wp2_with fail
      go_region_held3 (fun w' => w'.cell? ⟨w.heap.size + 2, 1, none⟩ = some (.slice (some ⟨pb, po, none⟩) K pc) ∧ w'.cell? ⟨pb, po + t * 2, none⟩ = some (.string xn) ∧ w'.cell? ⟨pb, po + t * 2 + 1, none⟩ = some (.int .i64 xt)) (first | exact ⟨u0, u1, u2⟩ | exact ⟨f0, d0, d1⟩ | go_keep) ((refine step_appendRA (enc := vrC) (k := 3) vrC_len rfl _ _ 27 rfl w.heap.size 53 _ 32 Try.underlying27 Try.infoVr rfl (by decide) HA.out.own ⟨xn, xt, -1⟩ (vrC_ones _) wr.heap.size (0, 0) (heap_alloc_new wr _) rfl rfl hpl (by omega) hBs ?_; intro v5 w5 hown5 hg5 hat5 hv5; obtain ⟨g5, cap5, rfl⟩ := hv5; have u0 := (cell_eq (hg5.block _ (Nat.lt_of_lt_of_le h2r hBA.size) hne2) 1).trans ((hBA.cell (p := ⟨w.heap.size + 2, 1, none⟩) h2r).trans f0); have u1 := (cell_eq (hg5.block _ (Nat.lt_of_lt_of_le hpbr hBA.size) hneb) (po + t * 2)).trans ((hBA.cell (p := ⟨pb, po + t * 2, none⟩) hpbr).trans d0); have u2 := (cell_eq (hg5.block _ (Nat.lt_of_lt_of_le hpbr hBA.size) hneb) (po + t * 2 + 1)).trans ((hBA.cell (p := ⟨pb, po + t * 2 + 1, none⟩) hpbr).trans d1)))
      have HF5 := HA.out.grown hg5 hown5
      have hXl : ((fp.take t).map parV).length = t := by
        rw [List.length_map, List.length_take]
        omega
      have HJ5 : Hid (VSt w (w.heap.size + 2) #[.slice na N nc, .slice (some ⟨b, off, none⟩) F fcap] #[.string fn, .slice (some ⟨pb, po, none⟩) K pc, .int .i64 fr, .int .i64 fb, .int .i64 ft] 32 49 w5 (.slice (some ⟨g5, 0, none⟩) (t + 1) cap5) ((fp.take (t + 1)).map parV)) := by
        rw [HNx.out]
        rw [hXl] at HF5
        exact HF5
      have HXl : Hid (((fp.take t).map parV).length = t) := hXl
      clear hown5 hg5 hat5 HF5 hXl u0 u1 u2 hne2 hneb hBs hBA HA HNx HJ f0 d0 d1
      go_wp2
      go_roundw
      case rel => exact ⟨t + 1, g5, cap5, by omega, by go_num, by first | rw [HXl.out] | (have := HK.out; simp; omega), HJ5⟩
      case measure => simp [intOf]; omega
    · have htK : t = K := by omega
      subst htK
      have H1 : Hid (VSt w (w.heap.size + 2) #[.slice na N nc, .slice (some ⟨b, off, none⟩) F fcap] #[.string fn, .slice pa t pc, .int .i64 fr, .int .i64 fb, .int .i64 ft] 32 49 wr (.slice (some ⟨og, 0, none⟩) t oc) (fp.map parV)) := by
        have h1 := HJ.out
        rw [List.take_of_length_le (by have := HK.out; omega)] at h1
        exact h1
      have f3 := cell_at HJ.out.blk 3
      have x0 := cell_at HJ.out.box 0
      have x1 := cell_at HJ.out.box 1
      simp at f3 x0 x1
      clear HJ H0
      go_wp2_with fail
      go_at_call 21
      refine Calls.mono (cU.out _ H1.out.bel) ?_
      rintro e w3 ⟨⟨gs, cs, rfl, hos, hxl⟩, hb3⟩
      have H3 : Hid (VSt w (w.heap.size + 2) #[.slice na N nc, .slice (some ⟨b, off, none⟩) F fcap] #[.string fn, .slice pa t pc, .int .i64 fr, .int .i64 fb, .int .i64 ft] 32 49 w3 (.slice (some ⟨og, 0, none⟩) t oc) (fp.map parV)) := H1.out.below hb3
      obtain ⟨xs, hxs⟩ : ∃ xs, Hid (underL p.nodes fb = xs) := ⟨_, (rfl : underL p.nodes fb = underL p.nodes fb)⟩
      rw [hxs.out] at hos hxl ⊢
      obtain ⟨X, HX⟩ : ∃ X, Hid (xs.length = X) := ⟨_, (rfl : xs.length = xs.length)⟩
      rw [HX.out] at hos hxl ⊢
      have HO3 : Hid (OwnsI w3 w.heap.size (.slice (some ⟨gs, 0, none⟩) X cs) xs) := owns_base hos H1.out.bel.size
      have HIn : Hid (∀ x ∈ xs, 0 ≤ x ∧ x < (p.nodes.length : Int)) := fun x hx => by
        rw [← hxs.out] at hx
        have := underL_in hx
        exact ⟨this.1, this.2.2.1⟩
      have HEnd : Hid (varsIn p.nodes ⟨fn, fp, fr, fb, ft⟩ = fp.map parV ++ lets p.nodes xs) := by
        show _ = _
        unfold varsIn
        rw [hxs.out]
      clear hos hb3 cU H1 f0 f3 x0 x1
      go_wp2_with fail
      go_loopw [5, 9] (fun o i wr => ∃ (s qg qc ql : Nat), s ≤ X ∧ i = .int .i64 (s : Int) ∧ o = .slice (some ⟨qg, 0, none⟩) ql qc ∧ ql ≤ 2097152 ∧ Hid (VSt w (w.heap.size + 2) #[.slice na N nc, .slice (some ⟨b, off, none⟩) F fcap] #[.string fn, .slice pa t pc, .int .i64 fr, .int .i64 fb, .int .i64 ft] 32 49 wr (.slice (some ⟨qg, 0, none⟩) ql qc) (fp.map parV ++ lets p.nodes (xs.take s)) ∧ OwnsI wr w.heap.size (.slice (some ⟨gs, 0, none⟩) X cs) xs ∧ ql = (fp.map parV ++ lets p.nodes (xs.take s)).length)) (fun _ i _ => X - (intOf i).toNat)
      case atStart => exact ⟨0, _, _, _, Nat.zero_le _, rfl, rfl, by omega, by simpa [lets] using H3.out, HO3.out, by simp [lets]; have := HK.out; omega⟩
      case round =>
        obtain ⟨s, qg, qc, ql, hs, rfl, rfl, hql, HQ⟩ := hrel
        have x0 := cell_at HQ.out.1.box 0
        simp at x0
        have hsz := HQ.out.1.bel.size
        by_cases hsl : s < X
        · have hs0 : (0 : Int) ≤ (s : Int) := by omega
          have hs1 : (s : Int) < (X : Int) := by omega
          have hsx : s < xs.length := by have := HX.out; omega
          obtain ⟨ib, io, hie, hib, e0⟩ := RowI.at (RowI.up HQ.out.2.1.row (Nat.le_refl _)) s hsx
          cases hie
          simp only [Nat.zero_add] at e0
          have hxj := HIn.out xs[s] (List.getElem_mem hsx)
          obtain ⟨j, hj⟩ : ∃ j : Nat, Hid (xs[s] = (j : Int)) := ⟨xs[s].toNat, (by show _ = _; omega)⟩
          rw [hj.out] at e0 hxj
          have hjN : j < N := by have := HN.out; omega
          have hjl : j < p.nodes.length := by have := HN.out; omega
          have hj0 : (0 : Int) ≤ (j : Int) := by omega
          have hj1 : (j : Int) < (N : Int) := by omega
          have hLT : Hid (lets p.nodes (xs.take (s + 1)) = lets p.nodes (xs.take s) ++ (if (p.nodes.getD j nd0).kind = 13 then [letV p.nodes (j : Int)] else [])) := by
            show _ = _
            rw [lets_take p.nodes xs s hsx, hj.out, Int.toNat_natCast]
          obtain ⟨nb, no, ka, kc, rfl, hnb, n0, n1, n2, n3, _⟩ := RowNd.at HV.out.1 j hjl
          have hgd : p.nodes.getD j nd0 = p.nodes[j] := by simp [List.getD, hjl]
          rw [hgd] at hLT
          have hlv : letV p.nodes (j : Int) = ⟨p.nodes[j].name, 0, (j : Int)⟩ := by
            unfold letV
            rw [Int.toNat_natCast, hgd]
          rw [hlv] at hLT
          obtain ⟨nx, hnx⟩ : ∃ nx, Hid (p.nodes[j].name = nx) := ⟨_, (rfl : p.nodes[j].name = p.nodes[j].name)⟩
          obtain ⟨kx, hkx⟩ : ∃ kx, Hid (p.nodes[j].kind = kx) := ⟨_, (rfl : p.nodes[j].kind = p.nodes[j].kind)⟩
          rw [hkx.out] at n0 hLT
          rw [hnx.out] at n2 hLT
          have d0 := (HQ.out.1.bel.cell (p := ⟨nb, no + j * 4, none⟩) hnb).trans n0
          have d2 := (HQ.out.1.bel.cell (p := ⟨nb, no + j * 4 + 2, none⟩) hnb).trans n2
          clear n0 n1 n2 n3 hgd hlv hxj
          by_cases hk : kx = 13
          · rw [if_pos hk] at hLT
            have HNx : Hid (fp.map parV ++ lets p.nodes (xs.take (s + 1)) = (fp.map parV ++ lets p.nodes (xs.take s)) ++ [⟨nx, 0, (j : Int)⟩]) := by
              show _ = _
              rw [hLT.out, List.append_assoc]
            go_wp2_with (go_quiet (fail))
            have hpl : (fp.map parV ++ lets p.nodes (xs.take s)).length ≤ 10000000 := by rw [← HQ.out.2.2]; omega
            have hBA : Below wr.heap.size wr ((wr.drewN (nq + 1)).alloc (.cells #[.string nx, .int .i64 0, .int .i64 (j : Int)] 53)) := (below_grown (grown_drewN wr (nq + 1))).alloc (Nat.le_refl _) _
            have HA : Hid (VSt w (w.heap.size + 2) #[.slice (some ⟨nb, no, none⟩) N nc, .slice (some ⟨b, off, none⟩) F fcap] #[.string fn, .slice pa t pc, .int .i64 fr, .int .i64 fb, .int .i64 ft] 32 49 ((wr.drewN (nq + 1)).alloc (.cells #[.string nx, .int .i64 0, .int .i64 (j : Int)] 53)) (.slice (some ⟨qg, 0, none⟩) ql qc) (fp.map parV ++ lets p.nodes (xs.take s))) := HQ.out.1.below hBA
            have HAo : Hid (OwnsR vrC 3 ((wr.drewN (nq + 1)).alloc (.cells #[.string nx, .int .i64 0, .int .i64 (j : Int)] 53)) w.heap.size 53 (.slice (some ⟨qg, 0, none⟩) ql qc) (fp.map parV ++ lets p.nodes (xs.take s))) := HA.out.own
            have HI2 : Hid (OwnsI ((wr.drewN (nq + 1)).alloc (.cells #[.string nx, .int .i64 0, .int .i64 (j : Int)] 53)) w.heap.size (.slice (some ⟨gs, 0, none⟩) X cs) xs) := OwnsR.below HQ.out.2.1 hBA
            have hne0 : some w.heap.size ≠ (Value.slice (some ⟨qg, 0, none⟩) ql qc).ownBlock := HQ.out.1.own.ne HQ.out.1.box HQ.out.1.nb
            have hneg : some gs ≠ (Value.slice (some ⟨qg, 0, none⟩) ql qc).ownBlock := by
              obtain ⟨cu, hcu⟩ := OwnsI.blk HQ.out.2.1
              exact HQ.out.1.own.ne hcu (by decide)
            have hnen : some nb ≠ (Value.slice (some ⟨qg, 0, none⟩) ql qc).ownBlock := fun e => by have := (OwnsR.lt HQ.out.1.own nb (by simp [fpOf, ← e])).1; omega
            have h0r : w.heap.size < wr.heap.size := HQ.out.1.lt
            have hgr : gs < wr.heap.size := hib
            have hnr : nb < wr.heap.size := by omega
            have hBs : w.heap.size ≤ ((wr.drewN (nq + 1)).alloc (.cells #[.string nx, .int .i64 0, .int .i64 (j : Int)] 53)).heap.size := HA.out.bel.size
            have hql2 : (fp.map parV ++ lets p.nodes (xs.take s)).length + 1 ≤ 2097152 := by
              have h1 := lets_len p.nodes (xs.take (s + 1))
              rw [hLT.out, List.length_append, List.length_singleton, List.length_take] at h1
              rw [List.length_append, List.length_map]
              have := HK.out
              omega
            clear hLT
            go_region_held3 (fun w' => w'.cell? ⟨w.heap.size, 0, none⟩ = some (.slice (some ⟨nb, no, none⟩) N nc) ∧ w'.cell? ⟨gs, s, none⟩ = some (.int .i64 (j : Int)) ∧ w'.cell? ⟨nb, no + j * 4 + 2, none⟩ = some (.string nx)) (first | exact ⟨u0, u1, u2⟩ | exact ⟨x0, e0, d2⟩ | go_keep) ((refine step_appendRA (enc := vrC) (k := 3) vrC_len rfl _ _ 27 rfl w.heap.size 53 _ 32 Try.underlying27 Try.infoVr rfl (by decide) HAo.out ⟨nx, 0, (j : Int)⟩ (vrC_ones _) wr.heap.size (0, 0) (heap_alloc_new (wr.drewN (nq + 1)) _) rfl rfl hpl (by omega) hBs ?_; intro v5 w5 hown5 hg5 hat5 hv5; obtain ⟨g5, cap5, rfl⟩ := hv5; have u0 := (cell_eq (hg5.block _ (Nat.lt_of_lt_of_le h0r hBA.size) hne0) 0).trans ((hBA.cell (p := ⟨w.heap.size, 0, none⟩) h0r).trans x0); have u1 := (cell_eq (hg5.block _ (Nat.lt_of_lt_of_le hgr hBA.size) hneg) s).trans ((hBA.cell (p := ⟨gs, s, none⟩) hgr).trans e0); have u2 := (cell_eq (hg5.block _ (Nat.lt_of_lt_of_le hnr hBA.size) hnen) (no + j * 4 + 2)).trans ((hBA.cell (p := ⟨nb, no + j * 4 + 2, none⟩) hnr).trans d2)))
            have HF5 := HA.out.grown hg5 hown5
            have HJ5 : Hid (VSt w (w.heap.size + 2) #[.slice (some ⟨nb, no, none⟩) N nc, .slice (some ⟨b, off, none⟩) F fcap] #[.string fn, .slice pa t pc, .int .i64 fr, .int .i64 fb, .int .i64 ft] 32 49 w5 (.slice (some ⟨g5, 0, none⟩) (ql + 1) cap5) (fp.map parV ++ lets p.nodes (xs.take (s + 1))) ∧ OwnsI w5 w.heap.size (.slice (some ⟨gs, 0, none⟩) X cs) xs ∧ ql + 1 = (fp.map parV ++ lets p.nodes (xs.take (s + 1))).length) := by
              rw [HNx.out]
              refine ⟨?_, OwnsR.kept HI2.out hg5 (.inr (fun e => hneg e)), ?_⟩
              · rw [← HQ.out.2.2] at HF5
                exact HF5
              · rw [List.length_append (bs := [_]), ← HQ.out.2.2]
                rfl
            have HQL : Hid ((fp.map parV ++ lets p.nodes (xs.take s)).length = ql) := HQ.out.2.2.symm
            clear hown5 hg5 hat5 HF5 u0 u1 u2 hne0 hneg hnen hBs hBA HA HNx HQ x0 e0 d0 d2 HI2 HAo
            go_wp2
            go_roundw
            case rel => exact ⟨s + 1, g5, cap5, ql + 1, by omega, by go_num, by first | rw [HQL.out] | (have := HQL.out; simp at this; simp; omega), by have := HQL.out; omega, HJ5⟩
            case measure => simp [intOf]; omega
          · rw [if_neg hk, List.append_nil] at hLT
            have HJ5 : Hid (VSt w (w.heap.size + 2) #[.slice (some ⟨nb, no, none⟩) N nc, .slice (some ⟨b, off, none⟩) F fcap] #[.string fn, .slice pa t pc, .int .i64 fr, .int .i64 fb, .int .i64 ft] 32 49 wr (.slice (some ⟨qg, 0, none⟩) ql qc) (fp.map parV ++ lets p.nodes (xs.take (s + 1))) ∧ OwnsI wr w.heap.size (.slice (some ⟨gs, 0, none⟩) X cs) xs ∧ ql = (fp.map parV ++ lets p.nodes (xs.take (s + 1))).length) := by
              rw [hLT.out]
              exact HQ.out
            clear HQ hLT
            go_wp2_with (go_quiet (fail))
            go_roundw
            case rel => exact ⟨s + 1, qg, qc, ql, by omega, by go_num, rfl, hql, HJ5.out.1.below (below_grown (grown_drewN wr nq)), OwnsR.below HJ5.out.2.1 (below_grown (grown_drewN wr nq)), HJ5.out.2.2⟩
            case measure => simp [intOf]; omega
        · have HZ : Hid (OwnsV wr w.heap.size (.slice (some ⟨qg, 0, none⟩) ql qc) (varsIn p.nodes ⟨fn, fp, fr, fb, ft⟩) ∧ Below w.heap.size w wr ∧ (varsIn p.nodes ⟨fn, fp, fr, fb, ft⟩).length = ql ∧ ql ≤ 2097152) := by
            have h1 := HQ.out
            rw [List.take_of_length_le (by have := HX.out; omega), ← HEnd.out] at h1
            exact ⟨h1.1.own, h1.1.bel, h1.2.2.symm, hql⟩
          clear HQ x0
          go_wp2
          go_ret
          refine ⟨⟨qg, qc, ?_, ?_, ?_⟩, HZ.out.2.1⟩
          · rw [HZ.out.2.2.1]
            rfl
          · rw [HZ.out.2.2.1]
            exact HZ.out.1
          · rw [HZ.out.2.2.1]
            exact HZ.out.2.2.2

end Go.Proofs.Ytljphnjmeckpbaa

namespace Go.Proofs.Ytljphnjmeckpbaa
open Go.RowKit

/-- What is known going back from node m to node t. -/
def Back (ns : List Nd) (m t : Nat) (bs : List Bool) : Prop := bs.length = m + 1 ∧ ∀ j, bs.getD j false = true ↔ j = m ∨ ∃ i, t ≤ i ∧ Reach ns m i ∧ (j : Int) ∈ (ns.getD i nd0).kids
theorem back_at {ns : List Nd} {m t : Nat} {bs : List Bool} (H : Ahead ns m) (h : Back ns m (t + 1) bs) : bs.getD t false = true ↔ Reach ns m t := by
  rw [h.2]
  constructor
  · rintro (rfl | ⟨i, _, hi, hc⟩)
    · exact .self
    · exact .step hi hc
  · intro hr
    cases hr with
    | self => exact .inl rfl
    | step hi hc =>
      have := H _ (reach_le H (Nat.le_refl _) hi) _ hc
      exact .inr ⟨_, by omega, hi, hc⟩
theorem back_no {ns : List Nd} {m t : Nat} {bs : List Bool} (H : Ahead ns m) (h : Back ns m (t + 1) bs) (hb : bs.getD t false = false) : Back ns m t bs := by
  refine ⟨h.1, fun j => ?_⟩
  rw [h.2]
  constructor
  · rintro (e | ⟨i, h1, h2, h3⟩)
    · exact .inl e
    · exact .inr ⟨i, by omega, h2, h3⟩
  · rintro (e | ⟨i, h1, h2, h3⟩)
    · exact .inl e
    · rcases Nat.lt_or_ge t i with h4 | h4
      · exact .inr ⟨i, h4, h2, h3⟩
      · have : i = t := by omega
        subst this
        have := (back_at H h).mpr h2
        rw [hb] at this
        cases this
theorem back_yes {ns : List Nd} {m t : Nat} {bs b2 : List Bool} (H : Ahead ns m) (h : Back ns m (t + 1) bs) (hb : bs.getD t false = true) (hl : b2.length = m + 1) (h2 : ∀ j, b2.getD j false = true ↔ bs.getD j false = true ∨ (j : Int) ∈ (ns.getD t nd0).kids) : Back ns m t b2 := by
  refine ⟨hl, fun j => ?_⟩
  rw [h2, h.2]
  constructor
  · rintro ((e | ⟨i, h1, h2, h3⟩) | h3)
    · exact .inl e
    · exact .inr ⟨i, by omega, h2, h3⟩
    · exact .inr ⟨t, Nat.le_refl _, (back_at H h).mp hb, h3⟩
  · rintro (e | ⟨i, h1, h2, h3⟩)
    · exact .inl (.inl e)
    · rcases Nat.lt_or_ge t i with h4 | h4
      · exact .inl (.inr ⟨i, h4, h2, h3⟩)
      · have : i = t := by omega
        subst this
        exact .inr h3
theorem back_end {ns : List Nd} {m : Nat} {bs : List Bool} (h : Back ns m 0 bs) (j : Nat) : bs.getD j false = true ↔ Reach ns m j := by
  rw [h.2]
  constructor
  · rintro (rfl | ⟨i, _, hi, hc⟩)
    · exact .self
    · exact .step hi hc
  · intro hr
    cases hr with
    | self => exact .inl rfl
    | step hi hc => exact .inr ⟨_, Nat.zero_le _, hi, hc⟩

set_option maxRecDepth 100000 in
set_option maxHeartbeats 6400000 in
theorem implUnder_any (v0 v1 : Value) (ns : List Nd) (k : Int) (w : World) (hR : NdR.Row w w.heap.size v0 ns) (hl : szRow szNd ns ≤ 1048576) :
    Calls Try.prog 26 #[.agg #[v0, v1], .int .i64 k] w fun e w' => (∃ v xs, e = .returned v ∧ OwnsI w' w.heap.size v xs ∧ UnderAns ns k xs ∧ xs.length ≤ 1048576) ∧ Below w.heap.size w w' := by
  obtain ⟨na, nc, rfl⟩ := hR.len
  obtain ⟨N, HN⟩ : ∃ N, Hid (ns.length = N) := ⟨_, (rfl : ns.length = ns.length)⟩
  have HV : Hid (NdR.Row w w.heap.size (.slice na N nc) ns) := by rw [← HN.out]; exact hR
  have HL : Hid (szRow szNd ns ≤ 1048576) := hl
  have hNl : N ≤ 1048576 := by have := len_szRow szNd ns; have := HN.out; omega
  rw [HN.out]
  obtain ⟨d, hd⟩ : ∃ d, Hid (deepOf ns k = d) := ⟨_, (rfl : deepOf ns k = deepOf ns k)⟩
  have cD : Hid (∀ W, Below w.heap.size w W → Calls Try.prog 44 #[.slice na N nc, .int .i64 k] W fun e w' => e = .returned (.int .i64 d) ∧ Below W.heap.size W w') := fun W hW => by
    rw [← hd.out]
    exact implDeepOf_any _ ns _ W ((HV.out.keep hW).up hW.size) HL.out
  clear hR hl
  go_enter Try.func26, Try.ntmps26
  go_wp2_with fail
  go_at_call 44
  refine Calls.mono (cD.out _ (by go_grown)) ?_
  rintro e w1 ⟨rfl, hb1⟩
  have B1 : Hid (Box w (.cells #[.slice na N nc, v1] 32) w1) := (Box.first _ _).next hb1
  clear hb1 cD
  by_cases hd0 : d = 0
  · have HE : Hid (UnderAns ns k []) := .inl ⟨by rw [hd.out]; exact hd0, rfl⟩
    subst hd0
    go_wp2
    go_ret
    exact ⟨⟨_, [], rfl, ownsR_nil _ _ _ _ _, HE.out, by simp⟩, B1.out.below⟩
  have hne : deepOf ns k ≠ 0 := by rw [hd.out]; exact hd0
  have hkb := deep_in hne
  rw [HN.out] at hkb
  obtain ⟨m, rfl⟩ : ∃ m : Nat, k = (m : Int) := ⟨k.toNat, by omega⟩
  have hm : m < N := by omega
  have hd1 : (d == 0) = false := by simpa using hd0
  have HAh : Hid (Ahead ns m) := ahead_of (by rw [HN.out]; exact hm) hne
  have HNE : Hid (deepOf ns (m : Int) ≠ 0) := hne
  have hm0 : (0 : Int) ≤ (m : Int) := by omega
  have hm1 : (m : Int) < ((m + 1 : Nat) : Int) := by omega
  have hlt1 := B1.out.lt
  obtain ⟨i0, hi, hz0, hz1, hz2⟩ := info_parts Try.infoBool
  clear hne hkb hd0
  go_wp2_with (at_make; refine wpList_make_full _ rfl _ _ 79 rfl (w.heap.size + 1) 4 i0 _ 1 Try.underlying79 hi hz0 hz1 _ _ _ _ (m + 1) rfl rfl (by omega) (by omega) (by rw [hz2]; omega) (by unfold maxLen; omega) (by omega) ?_; intro w2 hown2 hg2; have B2 : Hid (Box w (.cells #[.slice na N nc, v1] 32) w2) := B1.out.next (below_grown hg2); have S2 : Hid (OwnsB w2 (w.heap.size + 1) (.slice (some ⟨w1.heap.size, 0, none⟩) (m + 1) (m + 1)) (List.replicate (m + 1) false)) := (by show OwnsB _ _ _ _; unfold OwnsB OwnsR; rw [List.length_replicate, ← zero_bools]; exact hown2); have c0 := OwnsB.cellAt S2.out (by simp) m (by simp) false (by simp [List.getD]); have f0 := OwnsB.freeAt S2.out (by simp) m)
  have S3 : Hid (OwnsB (w2.setCell ⟨w1.heap.size, m, none⟩ (.bool true)) (w.heap.size + 1) (.slice (some ⟨w1.heap.size, 0, none⟩) (m + 1) (m + 1)) ((List.replicate (m + 1) false).set m true) ∧ Back ns m (m + 1) ((List.replicate (m + 1) false).set m true)) := by
    refine ⟨OwnsB.set S2.out (by simp) m (by simp) true, by simp, fun j => ?_⟩
    rw [getB_set _ _ _ (by simp)]
    by_cases e : m = j
    · subst e
      simp
    · rw [if_neg e]
      have h0 : (List.replicate (m + 1) false).getD j false = false := by simp only [List.getD]; rw [List.getElem?_replicate]; split <;> rfl
      rw [h0]
      constructor
      · intro h
        cases h
      · rintro (h | ⟨i, h1, h2, _⟩)
        · exact absurd h.symm e
        · have := reach_le HAh.out (Nat.le_refl _) h2
          omega
  have B3 : Hid (Box w (.cells #[.slice na N nc, v1] 32) (w2.setCell ⟨w1.heap.size, m, none⟩ (.bool true))) := B2.out.setCell hlt1 _
  clear hi hz0 hz1 hz2 hown2 hg2 B1 B2 S2 c0 f0
  go_loopw [6] (fun i wr => ∃ t : Nat, t ≤ m + 1 ∧ i = .int .i64 ((t : Int) - 1) ∧ Hid (∃ bs : List Bool, OwnsB wr (w.heap.size + 1) (.slice (some ⟨w1.heap.size, 0, none⟩) (m + 1) (m + 1)) bs ∧ Back ns m t bs) ∧ Hid (Box w (.cells #[.slice na N nc, v1] 32) wr)) (fun i _ => (intOf i + 1).toNat)
  case atStart => exact ⟨m + 1, Nat.le_refl _, by go_num, ⟨_, S3.out.1, S3.out.2⟩, B3⟩
  case round =>
    obtain ⟨t, ht, rfl, HJ, BX⟩ := hrel
    clear S3 B3
    obtain ⟨bs, ho, hbk⟩ := HJ.out
    rcases Nat.eq_zero_or_pos t with rfl | hpos
    rotate_left
    · obtain ⟨u, rfl⟩ : ∃ u : Nat, t = u + 1 := ⟨t - 1, by omega⟩
      have hu0 : (0 : Int) ≤ (u : Int) := by omega
      have hu1 : (u : Int) < ((m + 1 : Nat) : Int) := by omega
      have huN : u < ns.length := by rw [HN.out]; omega
      have hui : (((u + 1 : Nat)) : Int) - 1 = (u : Int) := by omega
      rw [hui]
      obtain ⟨x, hx⟩ : ∃ x, Hid (bs.getD u false = x) := ⟨_, (rfl : bs.getD u false = bs.getD u false)⟩
      have c0 := OwnsB.cellAt ho hbk.1.symm u (by rw [hbk.1]; omega) x hx.out
      have HBk : Hid (OwnsB wr (w.heap.size + 1) (.slice (some ⟨w1.heap.size, 0, none⟩) (m + 1) (m + 1)) bs ∧ Back ns m (u + 1) bs) := ⟨ho, hbk⟩
      clear ho hbk hui HJ
      cases x
      · have HJ1 : Hid (∃ bs : List Bool, OwnsB wr (w.heap.size + 1) (.slice (some ⟨w1.heap.size, 0, none⟩) (m + 1) (m + 1)) bs ∧ Back ns m u bs) := ⟨bs, HBk.out.1, back_no HAh.out HBk.out.2 hx.out⟩
        clear HBk
        go_wp2
        go_roundw
        case rel => exact ⟨u, by omega, by go_num, HJ1, BX⟩
        case measure => first | (simp [intOf]; done) | (simp [intOf]; omega)
      · obtain ⟨b, off, ka, kc, rfl, hbb, _, _, _, c3, hK⟩ := RowNd.at HV.out u huN
        obtain ⟨ks, hks⟩ : ∃ ks, Hid (ns[u].kids = ks) := ⟨_, (rfl : ns[u].kids = ns[u].kids)⟩
        rw [hks.out] at c3 hK
        have HKS : Hid ((ns.getD u nd0).kids = ks) := by show _ = _; rw [← hks.out]; simp [List.getD, huN]
        obtain ⟨K, HK⟩ : ∃ K, Hid (ks.length = K) := ⟨_, (rfl : ks.length = ks.length)⟩
        rw [HK.out] at c3 hK
        have HI : Hid (RowI w w.heap.size (.slice ka K kc) ks) := hK
        have hKl : K ≤ 1048576 := by
          have h1 := Nat.le_trans (Nat.le_trans (le_szNd_kids ns[u]) (mem_szRow szNd (List.getElem_mem huN))) HL.out
          rw [hks.out, HK.out] at h1
          exact h1
        have d3 := (BX.out.below.cell (p := ⟨b, off + u * 4 + 3, none⟩) hbb).trans c3
        have q0 := BX.out.cell 0
        simp at q0
        clear c3 hK
        go_wp2_with fail
        go_loopw [39] (fun j wj => ∃ s : Nat, s ≤ K ∧ j = .int .i64 (s : Int) ∧ Hid (∃ b2 : List Bool, OwnsB wj (w.heap.size + 1) (.slice (some ⟨w1.heap.size, 0, none⟩) (m + 1) (m + 1)) b2 ∧ b2.length = m + 1 ∧ ∀ j, b2.getD j false = true ↔ bs.getD j false = true ∨ (j : Int) ∈ ks.take s) ∧ Hid (Box w (.cells #[.slice (some ⟨b, off, none⟩) N nc, v1] 32) wj)) (fun j _ => K - (intOf j).toNat)
        case atStart => exact ⟨0, Nat.zero_le _, rfl, ⟨bs, HBk.out.1, HBk.out.2.1, fun j => by simp⟩, BX⟩
        case round =>
          obtain ⟨s, hs, rfl, HJ2, BX2⟩ := hrel
          clear d3 q0 c0
          obtain ⟨b2, ho2, hl2, hi2⟩ := HJ2.out
          by_cases hsl : s < K
          · have hs0 : (0 : Int) ≤ (s : Int) := by omega
            have hs1 : (s : Int) < (K : Int) := by omega
            have hskl : s < ks.length := by have := HK.out; omega
            obtain ⟨kb, ko, rfl, hkb, e0⟩ := HI.out.at s hskl
            obtain ⟨c, hc⟩ : ∃ c, Hid (ks[s] = c) := ⟨_, (rfl : ks[s] = ks[s])⟩
            have f1 := (BX2.out.below.cell (p := ⟨kb, ko + s, none⟩) hkb).trans e0
            rw [hc.out] at f1
            have hcb : 0 ≤ c ∧ c < (u : Int) := HAh.out u (by omega) c (by rw [HKS.out, ← hc.out]; exact List.getElem_mem hskl)
            obtain ⟨cn, rfl⟩ : ∃ cn : Nat, c = (cn : Int) := ⟨c.toNat, by omega⟩
            have hc0 : (0 : Int) ≤ (cn : Int) := by omega
            have hc1 : (cn : Int) < ((m + 1 : Nat) : Int) := by omega
            have hcm : cn < m + 1 := by omega
            obtain ⟨y, hy⟩ : ∃ y, Hid (b2.getD cn false = y) := ⟨_, (rfl : b2.getD cn false = b2.getD cn false)⟩
            have g1 := OwnsB.cellAt ho2 hl2.symm cn (by rw [hl2]; exact hcm) y hy.out
            have g2 := OwnsB.freeAt ho2 hl2.symm cn
            have S4 : Hid (∃ b3 : List Bool, OwnsB (wr.setCell ⟨w1.heap.size, cn, none⟩ (.bool true)) (w.heap.size + 1) (.slice (some ⟨w1.heap.size, 0, none⟩) (m + 1) (m + 1)) b3 ∧ b3.length = m + 1 ∧ ∀ j, b3.getD j false = true ↔ bs.getD j false = true ∨ (j : Int) ∈ ks.take (s + 1)) := by
              refine ⟨b2.set cn true, OwnsB.set ho2 hl2.symm cn (by rw [hl2]; exact hcm) true, by rw [List.length_set]; exact hl2, fun j => ?_⟩
              rw [getB_set _ _ _ (by rw [hl2]; exact hcm), List.take_succ_eq_append_getElem hskl, hc.out]
              by_cases e : cn = j
              · subst e
                simp
              · rw [if_neg e, hi2]
                have : ¬ (j : Int) = (cn : Int) := by omega
                simp [this]
            have BX4 : Hid (Box w (.cells #[.slice (some ⟨b, off, none⟩) N nc, v1] 32) (wr.setCell ⟨w1.heap.size, cn, none⟩ (.bool true))) := BX2.out.setCell hlt1 _
            clear e0 hcb ho2 hl2 hi2 HJ2 BX2
            go_wp2
            go_roundw
            case rel => exact ⟨s + 1, by omega, by go_num, S4, BX4⟩
            case measure => simp [intOf]; omega
          · have HsK : Hid (s = K) := (by omega : s = K)
            have HJ1 : Hid (∃ bs : List Bool, OwnsB wr (w.heap.size + 1) (.slice (some ⟨w1.heap.size, 0, none⟩) (m + 1) (m + 1)) bs ∧ Back ns m u bs) := ⟨b2, ho2, back_yes HAh.out HBk.out.2 hx.out hl2 (fun j => by rw [hi2, HsK.out, ← HK.out, List.take_length, HKS.out])⟩
            clear ho2 hl2 hi2 HJ2 HBk
            go_wp2
            go_roundw
            case rel => exact ⟨u, by omega, by go_num, HJ1, BX2⟩
            case measure => first | (simp [intOf]; done) | (simp [intOf]; omega)
    · have HBs : Hid (∀ j, bs.getD j false = true ↔ Reach ns m j) := fun j => back_end hbk j
      have HO3 : Hid (OwnsB wr (w.heap.size + 1) (.slice (some ⟨w1.heap.size, 0, none⟩) (m + 1) (m + 1)) bs ∧ bs.length = m + 1 ∧ Below w.heap.size w wr) := ⟨ho, hbk.1, BX.out.below⟩
      clear ho hbk HJ BX
      rw [show (((0 : Nat)) : Int) - 1 = -1 from rfl]
      go_wp2_with fail
      go_loopw [9, 49] (fun o i wj => ∃ (t : Nat), t ≤ m + 1 ∧ i = .int .i64 (t : Int) ∧ Hid (OwnsI wj w.heap.size o (picks bs t) ∧ Below w.heap.size w wj ∧ OwnsB wj (w.heap.size + 1) (.slice (some ⟨w1.heap.size, 0, none⟩) (m + 1) (m + 1)) bs)) (fun _ i _ => m + 1 - (intOf i).toNat)
      case atStart => exact ⟨0, Nat.zero_le _, rfl, ownsR_nil _ _ _ _ _, HO3.out.2.2, HO3.out.1⟩
      case round =>
        obtain ⟨t, ht, rfl, HJ⟩ := hrel
        have hlen : (picks bs t).length ≤ 1048576 := Nat.le_trans (picks_len bs t) (by omega)
        by_cases hlt : t < m + 1
        · have ht0 : (0 : Int) ≤ (t : Int) := by omega
          have ht1 : (t : Int) < ((m + 1 : Nat) : Int) := by omega
          obtain ⟨x, hx⟩ : ∃ x, Hid (bs.getD t false = x) := ⟨_, (rfl : bs.getD t false = bs.getD t false)⟩
          have c0 := OwnsB.cellAt HJ.out.2.2 HO3.out.2.1.symm t (by rw [HO3.out.2.1]; exact hlt) x hx.out
          obtain ⟨hown, hBw, hbs⟩ := HJ.out
          have HBS : Hid (OwnsB wr (w.heap.size + 1) (.slice (some ⟨w1.heap.size, 0, none⟩) (m + 1) (m + 1)) bs ∧ (Value.slice (some ⟨w1.heap.size, 0, none⟩) (m + 1) (m + 1)).ownBlock ≠ u9.ownBlock) := ⟨hbs, (types_apart hbs hown (by decide)).elim (fun e => by cases e) id⟩
          have hsz := hBw.size
          cases x
          · have HP : Hid (picks bs (t + 1) = picks bs t) := picks_no hx.out
            clear hown hBw hbs
            go_wp2
            go_roundw
            case rel => exact ⟨t + 1, by omega, by go_num, by rw [HP.out]; exact HJ⟩
            case measure => simp [intOf]; omega
          · have HP : Hid (picks bs (t + 1) = picks bs t ++ [(t : Int)]) := picks_yes hx.out
            clear hbs HJ
            go_wp2_with (at_builtin; go_must (refine appendR inC_len rfl _ _ 54 rfl w.heap.size 3 _ 8 Try.underlying54 Try.infoInt rfl (by decide) hown (t : Int) (inC_ones _) rfl (by first | rfl | (simp [Act.eval]; done)) (by omega) (by omega) hsz ?_); intro v4 w4 hown4 hb4 hs4 hg4)
            have HN4 : Hid (OwnsI w4 w.heap.size v4 (picks bs (t + 1)) ∧ Below w.heap.size w w4 ∧ OwnsB w4 (w.heap.size + 1) (.slice (some ⟨w1.heap.size, 0, none⟩) (m + 1) (m + 1)) bs) := by
              have hk := OwnsR.kept HBS.out.1 hg4 (.inr HBS.out.2)
              exact ⟨by rw [HP.out]; exact hown4, hb4 w hBw, hk⟩
            clear hown4 hb4 hs4 hg4 hown hBw HBS
            go_wp2
            go_roundw
            case rel => exact ⟨t + 1, by omega, by go_num, HN4⟩
            case measure => simp [intOf]; omega
        · have htm : Hid (t = m + 1) := (by omega : t = m + 1)
          have HE : Hid (UnderAns ns (m : Int) (picks bs t)) := by
            refine .inr ⟨HNE.out, ?_⟩
            rw [Int.toNat_natCast]
            exact picks_under HBs.out (fun j hj => by have := reach_le HAh.out (Nat.le_refl _) hj; have := htm.out; omega)
          go_wp2
          go_ret
          exact ⟨⟨_, picks bs t, rfl, HJ.out.1, HE.out, hlen⟩, HJ.out.2.1⟩

end Go.Proofs.Ytljphnjmeckpbaa

namespace Go.Proofs.Ytljphnjmeckpbaa
open Go.RowKit

theorem Clone_any (s : ByteArray) (w : World) (hlim : s.size ≤ 281474976710656) :
    Calls Try.prog 25 #[.string s] w fun e w' => e = .returned (.string s) ∧ Below w.heap.size w w' := by
  go_enter Try.func25, Try.ntmps25
  go_wp2_with (go_at_call 43; refine (Try.stringslite_Clone s _ hlim).mono ?_; rintro e w1 ⟨rfl, hb1⟩)
  go_ret
  exact ⟨rfl, hb1⟩

end Go.Proofs.Ytljphnjmeckpbaa

namespace Go.Proofs.Ytljphnjmeckpbaa
open Go.RowKit

theorem isFn_any (v0 : Value) (fa : Option Addr) (F fcap : Nat) (fn : Int) (w : World) :
    Calls Try.prog 24 #[.agg #[v0, .slice fa F fcap], .int .i64 fn] w fun e w' => e = .returned (.bool (isIn fn 0 ((F : Int) - 1))) ∧ Below w.heap.size w w' := by
  by_cases h0 : 0 ≤ fn
  · by_cases h1 : fn < (F : Int)
    · have hE : Hid (isIn fn 0 ((F : Int) - 1) = true) := by
        show _ = _
        rw [isIn_iff]
        omega
      rw [hE.out]
      have d0 : decide ((0 : Int) ≤ fn) = true := by simpa using h0
      go_enter Try.func24, Try.ntmps24
      go_wp2
      go_ret
      exact ⟨rfl, by go_grown⟩
    · have hE : Hid (isIn fn 0 ((F : Int) - 1) = false) := by
        show _ = _
        simp [isIn]
        omega
      rw [hE.out]
      have d0 : decide ((0 : Int) ≤ fn) = true := by simpa using h0
      go_enter Try.func24, Try.ntmps24
      go_wp2
      go_ret
      exact ⟨rfl, by go_grown⟩
  · have hE : Hid (isIn fn 0 ((F : Int) - 1) = false) := by
      show _ = _
      simp [isIn]
      omega
    rw [hE.out]
    have d0 : decide ((0 : Int) ≤ fn) = false := by simpa using h0
    go_enter Try.func24, Try.ntmps24
    go_wp2
    go_ret
    exact ⟨rfl, by go_grown⟩

set_option maxRecDepth 100000 in
set_option maxHeartbeats 6400000 in
theorem implVarsOf_any (v0 v1 : Value) (p : Pg) (fn : Int) (w : World) (hR : RowPg w w.heap.size v0 v1 p) (hl : szPg p ≤ 1048576) :
    Calls Try.prog 8 #[.agg #[v0, v1], .int .i64 fn] w fun e w' => (∃ a cap, e = .returned (.slice a (varsOf p fn).length cap) ∧ OwnsV w' w.heap.size (.slice a (varsOf p fn).length cap) (varsOf p fn)) ∧ Below w.heap.size w w' := by
  obtain ⟨na, nc, rfl⟩ := hR.1.len
  obtain ⟨fa, fcap, rfl⟩ := hR.2.len
  obtain ⟨N, HN⟩ : ∃ N, Hid (p.nodes.length = N) := ⟨_, (rfl : p.nodes.length = p.nodes.length)⟩
  obtain ⟨F, HF⟩ : ∃ N, Hid (p.fns.length = N) := ⟨_, (rfl : p.fns.length = p.fns.length)⟩
  have HV : Hid (RowPg w w.heap.size (.slice na N nc) (.slice fa F fcap) p) := by rw [← HN.out, ← HF.out]; exact hR
  have HL : Hid (szRow szNd p.nodes ≤ 1048576 ∧ szRow szFc p.fns ≤ 1048576) := ⟨Nat.le_trans (le_szPg_nodes p) hl, Nat.le_trans (le_szPg_fns p) hl⟩
  have hNl : N ≤ 1048576 := by have := len_szRow szNd p.nodes; have := HN.out; have := HL.out.1; omega
  have hFl : F ≤ 1048576 := by have := len_szRow szFc p.fns; have := HF.out; have := HL.out.2; omega
  rw [HN.out, HF.out]
  clear hR hl
  have cL0 : Hid (∀ W, Calls Try.prog 24 #[.agg #[.slice na N nc, .slice fa F fcap], .int .i64 fn] W fun e w' => e = .returned (.bool (isIn fn 0 ((F : Int) - 1))) ∧ Below W.heap.size W w') := fun W => isFn_any _ fa F fcap fn W
  by_cases hin : 0 ≤ fn ∧ fn ≤ (F : Int) - 1
  rotate_left
  · have hI : isIn fn 0 ((F : Int) - 1) = false := by
      cases hc : isIn fn 0 ((F : Int) - 1)
      · rfl
      · exact absurd ((isIn_iff _ _ _).mp hc) hin
    have HE : Hid (varsOf p fn = []) := by
      show _ = _
      unfold varsOf
      rw [HF.out, hI]
      rfl
    rw [HE.out]
    rw [hI] at cL0
    clear HV hin hI
    go_enter Try.func8, Try.ntmps8
    go_wp2_with fail
    go_at_call 24
    refine Calls.mono (cL0.out _) ?_
    rintro e w1 ⟨rfl, hb⟩
    have HB : Hid (Below w.heap.size w w1) := by
      refine Below.trans ?_ (hb.mono (by simp))
      go_grown
    clear hb
    go_wp2
    go_ret
    exact ⟨⟨none, 0, rfl, ownsR_nil _ _ _ _ _⟩, HB.out⟩
  obtain ⟨m, rfl⟩ : ∃ m : Nat, fn = (m : Int) := ⟨fn.toNat, by omega⟩
  have hI : isIn (m : Int) 0 ((F : Int) - 1) = true := (isIn_iff _ _ _).mpr hin
  rw [hI] at cL0
  have hmF : m < F := by omega
  have hmf : m < p.fns.length := by have := HF.out; omega
  have hm0 : (0 : Int) ≤ (m : Int) := by omega
  have hm1 : (m : Int) < (F : Int) := by omega
  obtain ⟨b, off, pv, rfl, hb, c0, c1, c2, c3, c4, hP⟩ := FcR.at HV.out.2 m hmf
  have HE : Hid (varsOf p (m : Int) = varsIn p.nodes p.fns[m]) := by
    show _ = _
    unfold varsOf
    rw [HF.out, hI, if_pos rfl]
    simp [List.getD, hmf]
  have hqs : szFc p.fns[m] ≤ 1048576 := Nat.le_trans (mem_szRow szFc (List.getElem_mem hmf)) HL.out.2
  obtain ⟨q, hq⟩ : ∃ q, Hid (p.fns[m] = q) := ⟨_, (rfl : p.fns[m] = p.fns[m])⟩
  rw [hq.out] at c0 c2 c3 c4 hP HE hqs
  rw [HE.out]
  obtain ⟨fn, fp, fr, fb, ft⟩ := q
  obtain ⟨pa, pc, rfl⟩ := hP.len
  simp only at c0 c1 c2 c3 c4 hP
  have hPs : szRow szPm fp ≤ 1048576 := Nat.le_trans (le_szFc_params ⟨fn, fp, fr, fb, ft⟩) hqs
  have HPs : Hid (szRow szPm fp ≤ 1048576) := hPs
  have hK : fp.length ≤ 1048576 := by
    have h2 := len_szRow szPm fp
    omega
  obtain ⟨K, HK⟩ : ∃ K, Hid (fp.length = K) := ⟨_, (rfl : fp.length = fp.length)⟩
  rw [HK.out] at c1 hP hK
  have HP : Hid (PmR.Row w w.heap.size (.slice pa K pc) fp) := hP
  have hkb : b < w.heap.size := hb
  obtain ⟨xs, hxs⟩ : ∃ xs, Hid (underL p.nodes fb = xs) := ⟨_, (rfl : underL p.nodes fb = underL p.nodes fb)⟩
  obtain ⟨X, HX⟩ : ∃ X, Hid (xs.length = X) := ⟨_, (rfl : xs.length = xs.length)⟩
  have cU : Hid (∀ W, Below w.heap.size w W → Calls Try.prog 26 #[.agg #[.slice na N nc, .slice (some ⟨b, off, none⟩) F fcap], .int .i64 fb] W fun e w' => (∃ g cap, e = .returned (.slice g X cap) ∧ OwnsI w' W.heap.size (.slice g X cap) xs ∧ X ≤ 1048576) ∧ Below W.heap.size W w') := fun W hW => by
    refine (implUnder_any _ _ p.nodes fb W ((HV.out.1.keep hW).up hW.size) HL.out.1).mono ?_
    rintro e w' ⟨⟨v, ys, he, ho, ha, hx⟩, hb⟩
    obtain rfl := underAns_one ha (underAns_L p.nodes fb)
    obtain ⟨a, cap, rfl⟩ := RowR.len ho.row
    rw [hxs.out] at ho hx he
    rw [HX.out] at ho hx he
    exact ⟨⟨a, cap, he, ho, hx⟩, hb⟩
  have HIn : Hid (∀ x ∈ xs, 0 ≤ x ∧ x < (p.nodes.length : Int)) := fun x hx => by
    rw [← hxs.out] at hx
    have := underL_in hx
    exact ⟨this.1, this.2.2.1⟩
  have HEnd : Hid (varsIn p.nodes ⟨fn, fp, fr, fb, ft⟩ = fp.map parV ++ lets p.nodes xs) := by
    show _ = _
    unfold varsIn
    rw [hxs.out]
  have HC3 : Hid (w.cell? ⟨b, off + m * 5 + 1, none⟩ = some (.slice pa K pc) ∧ w.cell? ⟨b, off + m * 5 + 3, none⟩ = some (.int .i64 fb)) := ⟨c1, c3⟩
  clear hb hqs hP hPs c0 c1 c2 c3 c4
  go_enter Try.func8, Try.ntmps8
  go_wp2_with fail
  go_at_call 24
  refine Calls.mono (cL0.out _) ?_
  rintro e w1 ⟨rfl, hb1⟩
  have B1 : Hid (Box w (.cells #[.slice na N nc, .slice (some ⟨b, off, none⟩) F fcap] 32) w1) := (Box.first _ _).next hb1
  have H0 : Hid (VSt w w.heap.size #[.slice na N nc, .slice (some ⟨b, off, none⟩) F fcap] #[.slice na N nc, .slice (some ⟨b, off, none⟩) F fcap] 32 32 w1 (.slice none 0 0) []) := by
    have h1 := (hb1.block w.heap.size (by simp)).trans (heap_alloc_new w (.cells #[.slice na N nc, .slice (some ⟨b, off, none⟩) F fcap] 32))
    exact ⟨ownsR_nil _ _ _ _ _, B1.out.below, h1, h1, by decide, by decide⟩
  have x1 := B1.out.cell 1
  have d1 := (B1.out.below.cell (p := ⟨b, off + m * 5 + 1, none⟩) hkb).trans HC3.out.1
  simp at x1
  clear hb1 cL0 B1
  go_wp2_with fail
  go_loopw [5, 22] (fun o i wr => ∃ (t : Nat) (oa : Option Addr) (oc : Nat), t ≤ K ∧ i = .int .i64 (t : Int) ∧ o = .slice oa t oc ∧ Hid (VSt w w.heap.size #[.slice na N nc, .slice (some ⟨b, off, none⟩) F fcap] #[.slice na N nc, .slice (some ⟨b, off, none⟩) F fcap] 32 32 wr (.slice oa t oc) ((fp.take t).map parV))) (fun _ i _ => K - (intOf i).toNat)
  case atStart => exact ⟨0, none, 0, Nat.zero_le _, rfl, rfl, H0.out⟩
  case round =>
    obtain ⟨t, oa, oc, ht, rfl, rfl, HJ⟩ := hrel
    clear H0 x1 d1
    have hsz := HJ.out.bel.size
    by_cases hlt : t < K
    · have ht0 : (0 : Int) ≤ (t : Int) := by omega
      have ht1 : (t : Int) < (K : Int) := by omega
      have htp : t < fp.length := by have := HK.out; omega
      obtain ⟨pb, po, rfl, hpb, e0, e1⟩ := PmR.at HP.out t htp
      have hnl : fp[t].name.size ≤ 281474976710656 := Nat.le_trans (Nat.le_trans (Nat.le_trans (le_szPm_name fp[t]) (mem_szRow szPm (List.getElem_mem htp))) HPs.out) (by omega)
      obtain ⟨x, hx⟩ : ∃ x, Hid (fp[t] = x) := ⟨_, (rfl : fp[t] = fp[t])⟩
      rw [hx.out] at e0 e1 hnl
      have d0 := (HJ.out.bel.cell (p := ⟨pb, po + t * 2, none⟩) hpb).trans e0
      have d1 := (HJ.out.bel.cell (p := ⟨pb, po + t * 2 + 1, none⟩) hpb).trans e1
      obtain ⟨xn, xt⟩ := x
      simp only at d0 d1 hnl
      have HNx : Hid ((fp.take (t + 1)).map parV = (fp.take t).map parV ++ [⟨xn, xt, -1⟩]) := by
        show _ = _
        rw [List.take_succ_eq_append_getElem htp, List.map_append, hx.out]
        rfl
      have hXl : ((fp.take t).map parV).length = t := by
        rw [List.length_map, List.length_take]
        omega
      have hpl : ((fp.take t).map parV).length ≤ 10000000 := by omega
      have HBn : Hid (Below wr.heap.size wr (wr.alloc (.cells #[.string xn, .int .i64 xt] 51))) := by show Below _ _ _; go_grown
      have HX1 : Hid (Box wr (.cells #[.string xn, .int .i64 xt] 51) (wr.alloc (.cells #[.string xn, .int .i64 xt] 51))) := Box.first _ _
      clear e0 e1
      go_wp2_with fail
      generalize hWn : wr.alloc (.cells #[.string xn, .int .i64 xt] 51) = Wn at HX1 HBn ⊢
      have x0 : Wn.cell? ⟨wr.heap.size, 0, none⟩ = some (.string xn) := HX1.out.cell 0
      have x1 : Wn.cell? ⟨wr.heap.size, 1, none⟩ = some (.int .i64 xt) := HX1.out.cell 1
      have hlw : wr.heap.size < Wn.heap.size := HX1.out.lt
      clear hWn d0 d1
      go_region_held3 (fun w' => w'.cell? ⟨wr.heap.size, 0, none⟩ = some (.string xn) ∧ w'.cell? ⟨wr.heap.size, 1, none⟩ = some (.int .i64 xt)) (first | exact ⟨u0, u1⟩ | exact ⟨r0, r1⟩ | exact ⟨x0, x1⟩ | go_keep) (first | (go_at_call 25; refine Calls.mono (Clone_any xn _ hnl) ?_; rintro e wC ⟨rfl, hbC⟩; have hbC1 : Below Wn.heap.size Wn wC := (Below.refl _ _).drew.trans hbC; have r0 := (hbC1.cell (p := ⟨wr.heap.size, 0, none⟩) hlw).trans x0; have r1 := (hbC1.cell (p := ⟨wr.heap.size, 1, none⟩) hlw).trans x1; have hlC : wr.heap.size < wC.heap.size := Nat.lt_of_lt_of_le hlw hbC1.size; have hBC : Below wr.heap.size wr wC := HBn.out.trans (hbC1.mono HBn.out.size)) | (refine step_appendRA (enc := vrC) (k := 3) vrC_len rfl _ _ 27 rfl w.heap.size 53 _ 32 Try.underlying27 Try.infoVr rfl (by decide) (OwnsR.below HJ.out.own (hBC.alloc hBC.size (.cells #[.string xn, .int .i64 xt, .int .i64 (-1)] 53))) ⟨xn, xt, -1⟩ (vrC_ones _) wC.heap.size (0, 0) (heap_alloc_new _ _) rfl rfl hpl (by omega) (by have := hBC.size; simp; omega) ?_; intro v5 w5 hown5 hg5 hat5 hv5; obtain ⟨g5, cap5, rfl⟩ := hv5; have h5b := fun (j : Nat) (hj : j < wC.heap.size) (hne : some j ≠ (Value.slice oa t oc).ownBlock) => (hg5.block j (by simp; omega) hne).trans (Below.heap_alloc wC (.cells #[.string xn, .int .i64 xt, .int .i64 (-1)] 53) j hj); have hneq : some wr.heap.size ≠ (Value.slice oa t oc).ownBlock := (fun e => by have := (OwnsR.lt HJ.out.own wr.heap.size (by simp [fpOf, ← e])).2; omega); have h5c := h5b wr.heap.size hlC hneq; have u0 : w5.cell? ⟨wr.heap.size, 0, none⟩ = some (.string xn) := (cell_eq h5c 0).trans r0; have u1 : w5.cell? ⟨wr.heap.size, 1, none⟩ = some (.int .i64 xt) := (cell_eq h5c 1).trans r1))
      have HJ5 : Hid (VSt w w.heap.size #[.slice na N nc, .slice (some ⟨b, off, none⟩) F fcap] #[.slice na N nc, .slice (some ⟨b, off, none⟩) F fcap] 32 32 w5 (.slice (some ⟨g5, 0, none⟩) (t + 1) cap5) ((fp.take (t + 1)).map parV)) := by
        have h5 := (HJ.out.below (hBC.alloc hBC.size (.cells #[.string xn, .int .i64 xt, .int .i64 (-1)] 53))).grown hg5 hown5
        rw [HNx.out]
        rw [hXl] at h5
        exact h5
      have HXl : Hid (((fp.take t).map parV).length = t) := hXl
      clear hown5 hg5 hat5 hXl u0 u1 r0 r1 x0 x1 hbC hbC1 hBC h5b h5c hneq HNx HJ HX1 HBn
      go_wp2
      go_roundw
      case rel => exact ⟨t + 1, some ⟨g5, 0, none⟩, cap5, by omega, by go_num, by first | rw [HXl.out] | (have := HK.out; simp; omega), HJ5⟩
      case measure => simp [intOf]; omega
    · have htK : t = K := by omega
      subst htK
      have H1 : Hid (VSt w w.heap.size #[.slice na N nc, .slice (some ⟨b, off, none⟩) F fcap] #[.slice na N nc, .slice (some ⟨b, off, none⟩) F fcap] 32 32 wr (.slice oa t oc) (fp.map parV)) := by
        have h1 := HJ.out
        rw [List.take_of_length_le (by have := HK.out; omega)] at h1
        exact h1
      have f3 := (HJ.out.bel.cell (p := ⟨b, off + m * 5 + 3, none⟩) hkb).trans HC3.out.2
      have x0 := cell_at HJ.out.box 0
      have x1 := cell_at HJ.out.box 1
      simp at x0 x1
      have hbr : b < wr.heap.size := by omega
      have hwr : w.heap.size < wr.heap.size := HJ.out.lt
      clear HJ HC3
      go_wp2_with fail
      go_region_held3 (fun w' => (w'.cell? ⟨w.heap.size, 0, none⟩ = some (.slice na N nc) ∧ w'.cell? ⟨w.heap.size, 1, none⟩ = some (.slice (some ⟨b, off, none⟩) F fcap)) ∧ w'.cell? ⟨b, off + m * 5 + 3, none⟩ = some (.int .i64 fb)) (first | exact ⟨⟨x0, x1⟩, f3⟩ | exact ⟨⟨(hb3.cell (p := ⟨w.heap.size, 0, none⟩) hwr).trans x0, (hb3.cell (p := ⟨w.heap.size, 1, none⟩) hwr).trans x1⟩, (hb3.cell (p := ⟨b, off + m * 5 + 3, none⟩) hbr).trans f3⟩ | go_keep) ((go_at_call 26; refine Calls.mono (cU.out _ H1.out.bel.drew) ?_; rintro e w3 ⟨⟨gs, cs, rfl, hos, hxl⟩, hb3⟩))
      have H3 : Hid (VSt w w.heap.size #[.slice na N nc, .slice (some ⟨b, off, none⟩) F fcap] #[.slice na N nc, .slice (some ⟨b, off, none⟩) F fcap] 32 32 w3 (.slice oa t oc) (fp.map parV)) := H1.out.below ((Below.refl _ _).drew.trans hb3)
      have HO3 : Hid (OwnsI w3 w.heap.size (.slice gs X cs) xs) := owns_base hos H1.out.bel.drew.size
      clear hos hb3 cU H1 f3 x0 x1
      go_wp2_with fail
      go_loopw [5, 45] (fun o i wr => ∃ (s ql : Nat) (qg : Option Addr) (qc : Nat), s ≤ X ∧ i = .int .i64 (s : Int) ∧ o = .slice qg ql qc ∧ ql ≤ 2097152 ∧ Hid (VSt w w.heap.size #[.slice na N nc, .slice (some ⟨b, off, none⟩) F fcap] #[.slice na N nc, .slice (some ⟨b, off, none⟩) F fcap] 32 32 wr (.slice qg ql qc) (fp.map parV ++ lets p.nodes (xs.take s)) ∧ OwnsI wr w.heap.size (.slice gs X cs) xs ∧ ql = (fp.map parV ++ lets p.nodes (xs.take s)).length)) (fun _ i _ => X - (intOf i).toNat)
      case atStart => exact ⟨0, _, _, _, Nat.zero_le _, rfl, rfl, by omega, by simpa [lets] using H3.out, HO3.out, by simp [lets]; have := HK.out; omega⟩
      case round =>
        obtain ⟨s, ql, qg, qc, hs, rfl, rfl, hql, HQ⟩ := hrel
        have x0 := cell_at HQ.out.1.box 0
        simp at x0
        have hsz := HQ.out.1.bel.size
        by_cases hsl : s < X
        · have hs0 : (0 : Int) ≤ (s : Int) := by omega
          have hs1 : (s : Int) < (X : Int) := by omega
          have hsx : s < xs.length := by have := HX.out; omega
          obtain ⟨ib, io, rfl, hib, e0⟩ := RowI.at (RowI.up HQ.out.2.1.row (Nat.le_refl _)) s hsx
          have hxj := HIn.out xs[s] (List.getElem_mem hsx)
          obtain ⟨j, hj⟩ : ∃ j : Nat, Hid (xs[s] = (j : Int)) := ⟨xs[s].toNat, (by show _ = _; omega)⟩
          rw [hj.out] at e0 hxj
          have hjN : j < N := by have := HN.out; omega
          have hjl : j < p.nodes.length := by have := HN.out; omega
          have hj0 : (0 : Int) ≤ (j : Int) := by omega
          have hj1 : (j : Int) < (N : Int) := by omega
          have hLT : Hid (lets p.nodes (xs.take (s + 1)) = lets p.nodes (xs.take s) ++ (if (p.nodes.getD j nd0).kind = 13 then [letV p.nodes (j : Int)] else [])) := by
            show _ = _
            rw [lets_take p.nodes xs s hsx, hj.out, Int.toNat_natCast]
          have hns : p.nodes[j].name.size ≤ 281474976710656 := Nat.le_trans (Nat.le_trans (Nat.le_trans (le_szNd_name p.nodes[j]) (mem_szRow szNd (List.getElem_mem hjl))) HL.out.1) (by omega)
          obtain ⟨nb, no, ka, kc, rfl, hnb, n0, n1, n2, n3, _⟩ := RowNd.at HV.out.1 j hjl
          have hgd : p.nodes.getD j nd0 = p.nodes[j] := by simp [List.getD, hjl]
          rw [hgd] at hLT
          have hlv : letV p.nodes (j : Int) = ⟨p.nodes[j].name, 0, (j : Int)⟩ := by
            unfold letV
            rw [Int.toNat_natCast, hgd]
          rw [hlv] at hLT
          obtain ⟨nx, hnx⟩ : ∃ nx, Hid (p.nodes[j].name = nx) := ⟨_, (rfl : p.nodes[j].name = p.nodes[j].name)⟩
          obtain ⟨kx, hkx⟩ : ∃ kx, Hid (p.nodes[j].kind = kx) := ⟨_, (rfl : p.nodes[j].kind = p.nodes[j].kind)⟩
          obtain ⟨mx, hmx⟩ : ∃ mx, Hid (p.nodes[j].num = mx) := ⟨_, (rfl : p.nodes[j].num = p.nodes[j].num)⟩
          obtain ⟨kn, hkn⟩ : ∃ kn, Hid (p.nodes[j].kids.length = kn) := ⟨_, (rfl : p.nodes[j].kids.length = p.nodes[j].kids.length)⟩
          rw [hkx.out] at n0 hLT
          rw [hmx.out] at n1
          rw [hnx.out] at n2 hLT hns
          rw [hkn.out] at n3
          have d0 := (HQ.out.1.bel.cell (p := ⟨nb, no + j * 4, none⟩) hnb).trans n0
          have d1 := (HQ.out.1.bel.cell (p := ⟨nb, no + j * 4 + 1, none⟩) hnb).trans n1
          have d2 := (HQ.out.1.bel.cell (p := ⟨nb, no + j * 4 + 2, none⟩) hnb).trans n2
          have d3 := (HQ.out.1.bel.cell (p := ⟨nb, no + j * 4 + 3, none⟩) hnb).trans n3
          clear n0 n1 n2 n3 hgd hlv hxj
          have HBn : Hid (Below wr.heap.size wr (wr.alloc (.cells #[.int .i64 kx, .int .i64 mx, .string nx, .slice ka kn kc] 57))) := by show Below _ _ _; go_grown
          by_cases hk : kx = 13
          · rw [if_pos hk] at hLT
            have HNx : Hid (fp.map parV ++ lets p.nodes (xs.take (s + 1)) = (fp.map parV ++ lets p.nodes (xs.take s)) ++ [⟨nx, 0, (j : Int)⟩]) := by
              show _ = _
              rw [hLT.out, List.append_assoc]
            have hpl : (fp.map parV ++ lets p.nodes (xs.take s)).length ≤ 10000000 := by rw [← HQ.out.2.2]; omega
            have hql2 : ql + 1 ≤ 2097152 := by
              have h1 := lets_len p.nodes (xs.take (s + 1))
              rw [hLT.out, List.length_append, List.length_singleton, List.length_take] at h1
              rw [HQ.out.2.2, List.length_append, List.length_map]
              have := HK.out
              omega
            clear hLT
            subst hk
            go_wp2_with fail
            go_at_call 25
            refine Calls.mono (Clone_any nx _ hns) ?_
            rintro e wC ⟨rfl, hbC⟩
            have hBC : Below wr.heap.size wr wC := HBn.out.trans (hbC.mono HBn.out.size)
            have HC : Hid (VSt w w.heap.size #[.slice (some ⟨nb, no, none⟩) N nc, .slice (some ⟨b, off, none⟩) F fcap] #[.slice (some ⟨nb, no, none⟩) N nc, .slice (some ⟨b, off, none⟩) F fcap] 32 32 wC (.slice qg ql qc) (fp.map parV ++ lets p.nodes (xs.take s)) ∧ OwnsI wC w.heap.size (.slice (some ⟨ib, io, none⟩) X cs) xs) := ⟨HQ.out.1.below hBC, OwnsR.below HQ.out.2.1 hBC⟩
            have HOw : Hid (OwnsR vrC 3 wC w.heap.size 53 (.slice qg ql qc) (fp.map parV ++ lets p.nodes (xs.take s))) := HC.out.1.own
            have hBs : w.heap.size ≤ wC.heap.size := HC.out.1.bel.size
            clear hbC d0 d1 d2 d3 x0 e0
            go_wp2_with (at_builtin; go_must (refine appendRA (enc := vrC) (k := 3) vrC_len rfl _ _ 27 rfl w.heap.size 53 _ 32 Try.underlying27 Try.infoVr rfl (by decide) HOw.out ⟨nx, 0, (j : Int)⟩ (vrC_ones _) rfl (by first | rfl | (simp [Act.eval]; done)) hpl (by omega) hBs ?_); intro v5 w5 hown5 hg5 hat5 hv5; obtain ⟨g5, cap5, rfl⟩ := hv5)
            have hneg : (Value.slice (some ⟨ib, io, none⟩) X cs).ownBlock ≠ (Value.slice qg ql qc).ownBlock := by
              rcases types_apart HC.out.2 HOw.out (by decide) with h1 | h1
              · rcases OwnsR.form HC.out.2 with ⟨h2, _⟩ | ⟨g, c, h2, _⟩
                · cases h2
                · rw [h2] at h1
                  cases h1
              · exact h1
            have HJ5 : Hid (VSt w w.heap.size #[.slice (some ⟨nb, no, none⟩) N nc, .slice (some ⟨b, off, none⟩) F fcap] #[.slice (some ⟨nb, no, none⟩) N nc, .slice (some ⟨b, off, none⟩) F fcap] 32 32 w5 (.slice (some ⟨g5, 0, none⟩) (ql + 1) cap5) (fp.map parV ++ lets p.nodes (xs.take (s + 1))) ∧ OwnsI w5 w.heap.size (.slice (some ⟨ib, io, none⟩) X cs) xs ∧ ql + 1 = (fp.map parV ++ lets p.nodes (xs.take (s + 1))).length) := by
              rw [HNx.out]
              have HF5 := HC.out.1.grown hg5 hown5
              refine ⟨?_, OwnsR.kept HC.out.2 hg5 (.inr hneg), ?_⟩
              · rw [← HQ.out.2.2] at HF5
                exact HF5
              · rw [List.length_append (bs := [_]), ← HQ.out.2.2]
                rfl
            have HQL : Hid ((fp.map parV ++ lets p.nodes (xs.take s)).length = ql) := HQ.out.2.2.symm
            clear hown5 hg5 hat5 hneg hBC HC HOw hBs HNx HQ HBn
            go_wp2
            go_roundw
            case rel => exact ⟨s + 1, ql + 1, some ⟨g5, 0, none⟩, cap5, by omega, by go_num, by first | rw [HQL.out] | (have := HQL.out; simp at this; simp; omega), hql2, HJ5⟩
            case measure => simp [intOf]; omega
          · rw [if_neg hk, List.append_nil] at hLT
            have HJ5 : Hid (VSt w w.heap.size #[.slice (some ⟨nb, no, none⟩) N nc, .slice (some ⟨b, off, none⟩) F fcap] #[.slice (some ⟨nb, no, none⟩) N nc, .slice (some ⟨b, off, none⟩) F fcap] 32 32 (wr.alloc (.cells #[.int .i64 kx, .int .i64 mx, .string nx, .slice ka kn kc] 57)) (.slice qg ql qc) (fp.map parV ++ lets p.nodes (xs.take (s + 1))) ∧ OwnsI (wr.alloc (.cells #[.int .i64 kx, .int .i64 mx, .string nx, .slice ka kn kc] 57)) w.heap.size (.slice (some ⟨ib, io, none⟩) X cs) xs ∧ ql = (fp.map parV ++ lets p.nodes (xs.take (s + 1))).length) := by
              rw [hLT.out]
              exact ⟨HQ.out.1.below HBn.out, OwnsR.below HQ.out.2.1 HBn.out, HQ.out.2.2⟩
            clear HQ hLT HBn
            go_wp2
            go_roundw
            case rel => exact ⟨s + 1, ql, qg, qc, by omega, by go_num, rfl, hql, HJ5⟩
            case measure => simp [intOf]; omega
        · have HZ : Hid (OwnsV wr w.heap.size (.slice qg ql qc) (varsIn p.nodes ⟨fn, fp, fr, fb, ft⟩) ∧ Below w.heap.size w wr ∧ (varsIn p.nodes ⟨fn, fp, fr, fb, ft⟩).length = ql) := by
            have h1 := HQ.out
            rw [List.take_of_length_le (by have := HX.out; omega), ← HEnd.out] at h1
            exact ⟨h1.1.own, h1.1.bel, h1.2.2.symm⟩
          clear HQ x0
          go_wp2
          go_ret
          refine ⟨⟨qg, qc, ?_, ?_⟩, HZ.out.2.1⟩
          · rw [HZ.out.2.2]
            rfl
          · rw [HZ.out.2.2]
            exact HZ.out.1

end Go.Proofs.Ytljphnjmeckpbaa

namespace Go.Proofs.Ytljphnjmeckpbaa
open Go.RowKit

theorem all_flatVr (v : Value) (ps : List Vr) : VrR.all v ps = [v] := by simp [RowTy.all, VrR, flat_nil]
def mkVr (k : Nat) (_x : Vr) : Vr := ⟨mkT (k), ((k + 1 : Nat) : Int), ((k + 2 : Nat) : Int)⟩
def lnVr (_x : Vr) : Nat := 0 + 3

set_option maxRecDepth 100000 in
set_option maxHeartbeats 3200000 in
theorem markVarS_some (B g cap k n : Nat) (ps : List (Vr)) (w : World) (HN : Hid (n = ps.length)) (hb : k + markN lnVr ps ≤ 1000000000) (hk0 : 0 < k) (hown : VrR.Phys w B (.slice (some ⟨g, 0, none⟩) n cap) ps) (hA : (fps (VrR.all (.slice (some ⟨g, 0, none⟩) n cap) ps)).Nodup) :
    Calls Try.prog 12 #[.slice (some ⟨g, 0, none⟩) n cap, .int .i64 (k : Int)] w fun e' w' => e' = .returned (.int .i64 ((k + markN lnVr ps : Nat) : Int)) ∧ VrR.Phys w' B (.slice (some ⟨g, 0, none⟩) n cap) (markL mkVr lnVr k ps) ∧ Kept (VrR.all (.slice (some ⟨g, 0, none⟩) n cap) ps) w w' := by
  have hnl : n ≤ 1000000000 := by have h1 := len_markN lnVr (fun p => by unfold lnVr; omega) ps; have := HN.out; omega
  obtain ⟨VS, HVS⟩ : ∃ VS, Hid (VrR.all (.slice (some ⟨g, 0, none⟩) n cap) ps = VS) := ⟨_, (rfl : VrR.all (.slice (some ⟨g, 0, none⟩) n cap) ps = VrR.all (.slice (some ⟨g, 0, none⟩) n cap) ps)⟩
  have HO : Hid (MarkSt VrR w VS w B g n cap (markTo mkVr lnVr k ps 0)) := by
    rw [markTo_zero]
    exact ⟨hown, HVS.out, by rw [← HVS.out]; exact hA, HN.out, Kept.refl _ _⟩
  rw [HVS.out]
  clear hown hA
  go_enter Try.func12, Try.ntmps12
  go_wp2
  go_loopw [1, 5] (fun kk i wr => ∃ (j m : Nat), j ≤ n ∧ i = .int .i64 (j : Int) ∧ kk = .int .i64 (m : Int) ∧ Hid (m = k + markN lnVr (ps.take j)) ∧ Hid (MarkSt VrR w VS wr B g n cap (markTo mkVr lnVr k ps j)))
    (fun _ i _ => n - (intOf i).toNat)
  case atStart => exact ⟨0, k, Nat.zero_le _, rfl, rfl, by show _ = _; simp [markN], HO⟩
  case round =>
    obtain ⟨j, m, hj, rfl, rfl, HM, H0⟩ := hrel
    clear HO
    by_cases hlt : j < n
    · have hj0 : (0 : Int) ≤ (j : Int) := by omega
      have hj1 : (j : Int) < (n : Int) := by omega
      have hjp : j < ps.length := by have := HN.out; omega
      have hm0 : 0 < m := by have := HM.out; omega
      obtain ⟨q, hq⟩ : ∃ q, Hid (ps[j] = q) := ⟨_, (rfl : ps[j] = ps[j])⟩
      have hmb : m + lnVr q ≤ 1000000000 := by
        have h1 := markN_take lnVr ps j hjp
        have h2 := markN_take_le lnVr ps (j + 1)
        have := HM.out
        rw [hq.out] at h1
        omega
      have HNX : Hid (m + lnVr q = k + markN lnVr (ps.take (j + 1))) := by
        show _ = _
        rw [markN_take lnVr ps j hjp, hq.out, HM.out, Nat.add_assoc]
      have HST : Hid (∀ y, y = mkVr m q → (markTo mkVr lnVr k ps j).set j y = markTo mkVr lnVr k ps (j + 1)) := fun y hy => markTo_step mkVr lnVr k ps j hjp y (by rw [hy, hq.out, HM.out])
      have hCl : j < (markTo mkVr lnVr k ps j).length := by rw [markTo_len]; exact hjp
      have hC0 : (markTo mkVr lnVr k ps j).set j q = markTo mkVr lnVr k ps j := by
        have := markTo_at mkVr lnVr k ps j hjp
        rw [hq.out] at this
        rw [← this]
        exact List.set_getElem_self hCl
      obtain ⟨C, hC⟩ : ∃ C, Hid (markTo mkVr lnVr k ps j = C) := ⟨_, (rfl : markTo mkVr lnVr k ps j = markTo mkVr lnVr k ps j)⟩
      rw [hC.out] at H0 HST hCl hC0
      have hl : ∀ y, j < (C.set j y).length := fun y => by rw [List.length_set]; exact hCl
      have HLn : Hid (∀ y, j < (C.set j y).length) := hl
      have HAt : Hid (∀ y, (C.set j y)[j]'(HLn.out y) = y) := fun y => List.getElem_set_self _
      obtain ⟨name, ty, node⟩ := q
      have S0 : Hid (MarkSt VrR w VS wr B g n cap (C.set j (⟨name, ty, node⟩ : Vr))) := by rw [hC0]; exact H0.out
      simp only [lnVr] at hmb
      clear H0 hC0 hl hCl
      go_wp2_with fail
      go_at_call 32
      refine (markText_any (m) _ (by omega) (by omega)).mono ?_
      rintro e' w1 ⟨rfl, hbc⟩
      obtain ⟨T0, HT0⟩ : ∃ T, Hid (mkT (m) = T) := ⟨_, (rfl : mkT (m) = mkT (m))⟩
      rw [HT0.out]
      have S1 : Hid (MarkSt VrR w VS w1 B g n cap (C.set j (⟨name, ty, node⟩ : Vr))) := S0.out.below hbc
      clear hbc S0
      have c1_0 : w1.cell? ⟨g, j * 3, none⟩ = some (.string name) := by
        have := S1.out.cell j 0 (HLn.out _) (by decide)
        rw [HAt.out] at this
        exact this
      have fr1_0 : w1.frozen? ⟨g, j * 3, none⟩ = false := S1.out.free _
      have S2 : Hid (MarkSt VrR w VS (w1.setCell ⟨g, j * 3, none⟩ (.string T0)) B g n cap (C.set j (⟨T0, ty, node⟩ : Vr))) := by
        have := S1.out.field j 0 (HLn.out _) (by decide) (⟨T0, ty, node⟩ : Vr) (.string T0) (by rw [HAt.out]; rfl) (by rw [HAt.out]; rfl) (fun W B h => by rw [HAt.out] at h; exact h)
        rw [List.set_set] at this
        exact this
      have c2_1 : w1.cell? ⟨g, j * 3 + 1, none⟩ = some (.int .i64 ty) := by
        have := S1.out.cell j 1 (HLn.out _) (by decide)
        rw [HAt.out] at this
        exact this
      have fr2_1 : w1.frozen? ⟨g, j * 3 + 1, none⟩ = false := S1.out.free _
      have S3 : Hid (MarkSt VrR w VS ((w1.setCell ⟨g, j * 3, none⟩ (.string T0)).setCell ⟨g, j * 3 + 1, none⟩ (.int .i64 ((m + 1 : Nat) : Int))) B g n cap (C.set j (⟨T0, ((m + 1 : Nat) : Int), node⟩ : Vr))) := by
        have := S2.out.field j 1 (HLn.out _) (by decide) (⟨T0, ((m + 1 : Nat) : Int), node⟩ : Vr) (.int .i64 ((m + 1 : Nat) : Int)) (by rw [HAt.out]; rfl) (by rw [HAt.out]; rfl) (fun W B h => by rw [HAt.out] at h; exact h)
        rw [List.set_set] at this
        exact this
      clear S2
      have c3_2 : w1.cell? ⟨g, j * 3 + 2, none⟩ = some (.int .i64 node) := by
        have := S1.out.cell j 2 (HLn.out _) (by decide)
        rw [HAt.out] at this
        exact this
      have fr3_2 : w1.frozen? ⟨g, j * 3 + 2, none⟩ = false := S1.out.free _
      have S4 : Hid (MarkSt VrR w VS (((w1.setCell ⟨g, j * 3, none⟩ (.string T0)).setCell ⟨g, j * 3 + 1, none⟩ (.int .i64 ((m + 1 : Nat) : Int))).setCell ⟨g, j * 3 + 2, none⟩ (.int .i64 ((m + 2 : Nat) : Int))) B g n cap (C.set j (⟨T0, ((m + 1 : Nat) : Int), ((m + 2 : Nat) : Int)⟩ : Vr))) := by
        have := S3.out.field j 2 (HLn.out _) (by decide) (⟨T0, ((m + 1 : Nat) : Int), ((m + 2 : Nat) : Int)⟩ : Vr) (.int .i64 ((m + 2 : Nat) : Int)) (by rw [HAt.out]; rfl) (by rw [HAt.out]; rfl) (fun W B h => by rw [HAt.out] at h; exact h)
        rw [List.set_set] at this
        exact this
      clear S3
      have HF : Hid (MarkSt VrR w VS (((w1.setCell ⟨g, j * 3, none⟩ (.string T0)).setCell ⟨g, j * 3 + 1, none⟩ (.int .i64 ((m + 1 : Nat) : Int))).setCell ⟨g, j * 3 + 2, none⟩ (.int .i64 ((m + 2 : Nat) : Int))) B g n cap (markTo mkVr lnVr k ps (j + 1))) := by
        have h1 := HST.out (⟨T0, ((m + 1 : Nat) : Int), ((m + 2 : Nat) : Int)⟩ : Vr) (by
          simp only [mkVr]
          rw [← HT0.out]
          try rw [lnI_len]
          try rfl)
        rw [← h1]
        exact S4.out
      have HE : Hid (m + 3 = k + markN lnVr (ps.take (j + 1))) := by
        show _ = _
        rw [← HNX.out]
        simp only [lnVr]
        try omega
      clear S4 S1
      go_wp2
      go_roundw
      case rel => exact ⟨j + 1, m + 3, by omega, by go_num, by go_num, HE, HF⟩
      case measure => simp [intOf]; omega
    · have hjn : Hid (j = n) := (by omega : j = n)
      have HE : Hid (m = k + markN lnVr ps) := by show _ = _; rw [HM.out, List.take_of_length_le (by have := HN.out; have := hjn.out; omega)]
      have HF : Hid (MarkSt VrR w VS wr B g n cap (markL mkVr lnVr k ps)) := by
        have := H0.out
        rw [markTo_all mkVr lnVr k ps j (by have := HN.out; have := hjn.out; omega)] at this
        exact this
      go_wp2
      go_ret
      exact ⟨by rw [← HE.out]; rfl, HF.out.phys, HF.out.kept⟩
theorem markVarS_none (ao : Option Addr) (c : Nat) (k : Int) (w : World) :
    Calls Try.prog 12 #[.slice ao 0 c, .int .i64 k] w fun e w' => e = .returned (.int .i64 k) ∧ w' = w := by
  go_enter Try.func12, Try.ntmps12
  go_wp2
  refine wp_loop_rounds 1 ?_
  rw [rounds_succ]
  go_wp2
  go_ret
  exact ⟨rfl, rfl⟩
theorem markVarS_any (B : Nat) (v : Value) (k : Nat) (ps : List (Vr)) (w : World) (hb : k + markN lnVr ps ≤ 1000000000) (hk0 : 0 < k) (hown : VrR.Phys w B v ps) (hA : (fps (VrR.all v ps)).Nodup) :
    Calls Try.prog 12 #[v, .int .i64 (k : Int)] w fun e' w' => e' = .returned (.int .i64 ((k + markN lnVr ps : Nat) : Int)) ∧ VrR.Phys w' B v (markL mkVr lnVr k ps) ∧ Kept (VrR.all v ps) w w' := by
  rcases OwnsR.form hown.1 with ⟨rfl, rfl⟩ | ⟨g, cap, rfl, _, _⟩
  · refine (markVarS_none none 0 k w).mono ?_
    rintro e' w' ⟨rfl, rfl⟩
    exact ⟨rfl, hown, Kept.refl _ _⟩
  · exact markVarS_some B g cap k _ ps w rfl hb hk0 hown hA

end Go.Proofs.Ytljphnjmeckpbaa

namespace Go.Proofs.Ytljphnjmeckpbaa
open Go.RowKit

set_option maxRecDepth 100000 in
set_option maxHeartbeats 3200000 in
theorem heldVarS_any (B : Nat) (v : Value) (k : Nat) (xs : List Vr) (w : World) (hB : B ≤ w.heap.size) (hb : k + markN lnVr xs ≤ 1000000000) (hk0 : 0 < k) (hv : VrR.Row w B v (markL mkVr lnVr k xs)) :
    Calls Try.prog 13 #[v, .int .i64 (k : Int)] w fun e' w' => e' = .returned (.int .i64 ((k + markN lnVr xs : Nat) : Int)) ∧ Below w.heap.size w w' := by
  obtain ⟨a, cap, rfl⟩ := hv.len
  obtain ⟨n, HN⟩ : ∃ n, Hid (n = xs.length) := ⟨_, (rfl : xs.length = xs.length)⟩
  rw [markL_len, ← HN.out] at hv ⊢
  have hnl : n ≤ 1000000000 := by have h1 := len_markN lnVr (fun p => by unfold lnVr; omega) xs; have := HN.out; omega
  have HV : Hid (VrR.Row w B (.slice a n cap) (markL mkVr lnVr k xs)) := hv
  clear hv
  go_enter Try.func13, Try.ntmps13
  go_wp2
  go_loopw [1, 5] (fun kk i wr => ∃ (j m : Nat), j ≤ n ∧ i = .int .i64 (j : Int) ∧ kk = .int .i64 (m : Int) ∧ Hid (m = k + markN lnVr (xs.take j)) ∧ Below w.heap.size w wr)
    (fun _ i _ => n - (intOf i).toNat)
  case atStart => exact ⟨0, k, Nat.zero_le _, rfl, rfl, by show _ = _; simp [markN], Below.refl _ _⟩
  case round =>
    obtain ⟨j, m, hj, rfl, rfl, HM, hnx⟩ := hrel
    have hsz := hnx.size
    by_cases hlt : j < n
    · have hj0 : (0 : Int) ≤ (j : Int) := by omega
      have hj1 : (j : Int) < (n : Int) := by omega
      have hjx : j < xs.length := by have := HN.out; omega
      have hm0 : 0 < m := by have := HM.out; omega
      obtain ⟨b, off, rfl, hbB, c0, c1, c2⟩ := VrR.at HV.out j (by rw [markL_len]; exact hjx)
      rw [markL_at mkVr lnVr xs k j hjx, ← HM.out] at c0 c1 c2
      have hmb : m + lnVr xs[j] ≤ 1000000000 := by
        have h1 := markN_take lnVr xs j hjx
        have h2 := markN_take_le lnVr xs (j + 1)
        have := HM.out
        omega
      have HNX : Hid (m + lnVr xs[j] = k + markN lnVr (xs.take (j + 1))) := by
        show _ = _
        rw [markN_take lnVr xs j hjx, HM.out, Nat.add_assoc]
      obtain ⟨x, hx⟩ : ∃ x, Hid (xs[j] = x) := ⟨_, (rfl : xs[j] = xs[j])⟩
      rw [hx.out] at c0 c1 c2 hmb HNX
      simp only [mkVr] at c0 c1 c2
      simp only [lnVr] at hmb
      have hbr : b < wr.heap.size := by omega
      have d0 := (hnx.cell (p := ⟨b, off + j * 3, none⟩) (by show b < _; omega)).trans c0
      have d1 := (hnx.cell (p := ⟨b, off + j * 3 + 1, none⟩) (by show b < _; omega)).trans c1
      have d2 := (hnx.cell (p := ⟨b, off + j * 3 + 2, none⟩) (by show b < _; omega)).trans c2
      clear c0 c1 c2
      have HB0 : Hid (Below w.heap.size w wr) := hnx
      clear hnx
      obtain ⟨s0, hs0⟩ : ∃ s, Hid (mkT (m) = s) := ⟨_, (rfl : mkT (m) = mkT (m))⟩
      rw [hs0.out] at d0
      go_wp2_with fail
      go_region_held3 (fun w' => w'.cell? ⟨b, off + j * 3, none⟩ = some (.string s0)) (first | go_keep | (show _ = _; rw [hbc.cell (p := ⟨b, off + j * 3, none⟩) hbr]; assumption)) ((go_at_call 32; refine (markText_any (m) _ ?_ ?_).mono ?_; omega; omega; rw [hs0.out]; rintro e' w1 ⟨rfl, hbc⟩))
      all_goals
        have HB1 : Hid (Below w.heap.size w w1) := HB0.out.trans ((Below.refl _ _).drew.trans (hbc.mono HB0.out.size))
        have hlt1 : b < w1.heap.size := Nat.lt_of_lt_of_le hbr hbc.size
        have d1_1 := (hbc.cell (p := ⟨b, off + j * 3 + 1, none⟩) hbr).trans d1
        have d1_2 := (hbc.cell (p := ⟨b, off + j * 3 + 2, none⟩) hbr).trans d2
        clear hbc d0 d1 d2
        have HE : Hid (m + 3 = k + markN lnVr (xs.take (j + 1))) := by
          show _ = _
          rw [← HNX.out]
          simp only [lnVr]
          try omega
        have HBe : Hid (Below w.heap.size w w1) := HB1.out
        clear HB1 hlt1
        go_wp2
        go_roundw
        case rel => exact ⟨j + 1, m + 3, by omega, by go_num, by go_num, HE, HBe.out⟩
        case measure => simp [intOf]; omega
    · have hjn : Hid (j = n) := (by omega : j = n)
      have HE : Hid (m = k + markN lnVr xs) := by show _ = _; rw [HM.out, List.take_of_length_le (by have := HN.out; have := hjn.out; omega)]
      go_wp2
      go_ret
      exact ⟨by rw [← HE.out]; rfl, hnx⟩

end Go.Proofs.Ytljphnjmeckpbaa

namespace Go.Proofs.Ytljphnjmeckpbaa
open Go.RowKit

def mkNd (k : Nat) (x : Nd) : Nd := ⟨((k : Nat) : Int), ((k + 1 : Nat) : Int), mkT (k + 2), markL mkI lnI (k + 3) x.kids⟩
def lnNd (x : Nd) : Nat := (0 + 3 + markN lnI x.kids)
def mkNdP (k : Nat) (p : Nd × Value) : Nd × Value := (mkNd k p.1, p.2)
def lnNdP (p : Nd × Value) : Nat := lnNd p.1

set_option maxRecDepth 100000 in
set_option maxHeartbeats 3200000 in
theorem markNodeS_some (B g cap k n : Nat) (ps : List (Nd × Value)) (w : World) (HN : Hid (n = ps.length)) (hb : k + markN lnNdP ps ≤ 1000000000) (hk0 : 0 < k) (hown : NdR.Phys w B (.slice (some ⟨g, 0, none⟩) n cap) ps) (hA : (fps (NdR.all (.slice (some ⟨g, 0, none⟩) n cap) ps)).Nodup) :
    Calls Try.prog 30 #[.slice (some ⟨g, 0, none⟩) n cap, .int .i64 (k : Int)] w fun e' w' => e' = .returned (.int .i64 ((k + markN lnNdP ps : Nat) : Int)) ∧ NdR.Phys w' B (.slice (some ⟨g, 0, none⟩) n cap) (markL mkNdP lnNdP k ps) ∧ Kept (NdR.all (.slice (some ⟨g, 0, none⟩) n cap) ps) w w' := by
  have hnl : n ≤ 1000000000 := by have h1 := len_markN lnNdP (fun p => by unfold lnNdP lnNd; omega) ps; have := HN.out; omega
  obtain ⟨VS, HVS⟩ : ∃ VS, Hid (NdR.all (.slice (some ⟨g, 0, none⟩) n cap) ps = VS) := ⟨_, (rfl : NdR.all (.slice (some ⟨g, 0, none⟩) n cap) ps = NdR.all (.slice (some ⟨g, 0, none⟩) n cap) ps)⟩
  have HO : Hid (MarkSt NdR w VS w B g n cap (markTo mkNdP lnNdP k ps 0)) := by
    rw [markTo_zero]
    exact ⟨hown, HVS.out, by rw [← HVS.out]; exact hA, HN.out, Kept.refl _ _⟩
  rw [HVS.out]
  clear hown hA
  go_enter Try.func30, Try.ntmps30
  go_wp2
  go_loopw [1, 5] (fun kk i wr => ∃ (j m : Nat), j ≤ n ∧ i = .int .i64 (j : Int) ∧ kk = .int .i64 (m : Int) ∧ Hid (m = k + markN lnNdP (ps.take j)) ∧ Hid (MarkSt NdR w VS wr B g n cap (markTo mkNdP lnNdP k ps j)))
    (fun _ i _ => n - (intOf i).toNat)
  case atStart => exact ⟨0, k, Nat.zero_le _, rfl, rfl, by show _ = _; simp [markN], HO⟩
  case round =>
    obtain ⟨j, m, hj, rfl, rfl, HM, H0⟩ := hrel
    clear HO
    by_cases hlt : j < n
    · have hj0 : (0 : Int) ≤ (j : Int) := by omega
      have hj1 : (j : Int) < (n : Int) := by omega
      have hjp : j < ps.length := by have := HN.out; omega
      have hm0 : 0 < m := by have := HM.out; omega
      obtain ⟨q, hq⟩ : ∃ q, Hid (ps[j] = q) := ⟨_, (rfl : ps[j] = ps[j])⟩
      have hmb : m + lnNdP q ≤ 1000000000 := by
        have h1 := markN_take lnNdP ps j hjp
        have h2 := markN_take_le lnNdP ps (j + 1)
        have := HM.out
        rw [hq.out] at h1
        omega
      have HNX : Hid (m + lnNdP q = k + markN lnNdP (ps.take (j + 1))) := by
        show _ = _
        rw [markN_take lnNdP ps j hjp, hq.out, HM.out, Nat.add_assoc]
      have HST : Hid (∀ y, y = mkNdP m q → (markTo mkNdP lnNdP k ps j).set j y = markTo mkNdP lnNdP k ps (j + 1)) := fun y hy => markTo_step mkNdP lnNdP k ps j hjp y (by rw [hy, hq.out, HM.out])
      have hCl : j < (markTo mkNdP lnNdP k ps j).length := by rw [markTo_len]; exact hjp
      have hC0 : (markTo mkNdP lnNdP k ps j).set j q = markTo mkNdP lnNdP k ps j := by
        have := markTo_at mkNdP lnNdP k ps j hjp
        rw [hq.out] at this
        rw [← this]
        exact List.set_getElem_self hCl
      obtain ⟨C, hC⟩ : ∃ C, Hid (markTo mkNdP lnNdP k ps j = C) := ⟨_, (rfl : markTo mkNdP lnNdP k ps j = markTo mkNdP lnNdP k ps j)⟩
      rw [hC.out] at H0 HST hCl hC0
      have hl : ∀ y, j < (C.set j y).length := fun y => by rw [List.length_set]; exact hCl
      have HLn : Hid (∀ y, j < (C.set j y).length) := hl
      have HAt : Hid (∀ y, (C.set j y)[j]'(HLn.out y) = y) := fun y => List.getElem_set_self _
      obtain ⟨⟨kind, num, name, kids⟩, v0⟩ := q
      have S0 : Hid (MarkSt NdR w VS wr B g n cap (C.set j ((⟨kind, num, name, kids⟩ : Nd), v0))) := by rw [hC0]; exact H0.out
      simp only [lnNdP, lnNd] at hmb
      clear H0 hC0 hl hCl
      have c0_0 : wr.cell? ⟨g, j * 4, none⟩ = some (.int .i64 kind) := by
        have := S0.out.cell j 0 (HLn.out _) (by decide)
        rw [HAt.out] at this
        exact this
      have fr0_0 : wr.frozen? ⟨g, j * 4, none⟩ = false := S0.out.free _
      have S1 : Hid (MarkSt NdR w VS (wr.setCell ⟨g, j * 4, none⟩ (.int .i64 ((m : Nat) : Int))) B g n cap (C.set j ((⟨((m : Nat) : Int), num, name, kids⟩ : Nd), v0))) := by
        have := S0.out.field j 0 (HLn.out _) (by decide) ((⟨((m : Nat) : Int), num, name, kids⟩ : Nd), v0) (.int .i64 ((m : Nat) : Int)) (by rw [HAt.out]; rfl) (by rw [HAt.out]; rfl) (fun W B h => by rw [HAt.out] at h; exact h)
        rw [List.set_set] at this
        exact this
      have c1_1 : wr.cell? ⟨g, j * 4 + 1, none⟩ = some (.int .i64 num) := by
        have := S0.out.cell j 1 (HLn.out _) (by decide)
        rw [HAt.out] at this
        exact this
      have fr1_1 : wr.frozen? ⟨g, j * 4 + 1, none⟩ = false := S0.out.free _
      have S2 : Hid (MarkSt NdR w VS ((wr.setCell ⟨g, j * 4, none⟩ (.int .i64 ((m : Nat) : Int))).setCell ⟨g, j * 4 + 1, none⟩ (.int .i64 ((m + 1 : Nat) : Int))) B g n cap (C.set j ((⟨((m : Nat) : Int), ((m + 1 : Nat) : Int), name, kids⟩ : Nd), v0))) := by
        have := S1.out.field j 1 (HLn.out _) (by decide) ((⟨((m : Nat) : Int), ((m + 1 : Nat) : Int), name, kids⟩ : Nd), v0) (.int .i64 ((m + 1 : Nat) : Int)) (by rw [HAt.out]; rfl) (by rw [HAt.out]; rfl) (fun W B h => by rw [HAt.out] at h; exact h)
        rw [List.set_set] at this
        exact this
      clear S1
      go_wp2_with fail
      clear c0_0 fr0_0 c1_1 fr1_1 S0
      go_at_call 32
      refine (markText_any (m + 2) _ (by omega) (by omega)).mono ?_
      rintro e' w1 ⟨rfl, hbc⟩
      obtain ⟨T0, HT0⟩ : ∃ T, Hid (mkT (m + 2) = T) := ⟨_, (rfl : mkT (m + 2) = mkT (m + 2))⟩
      rw [HT0.out]
      have S3 : Hid (MarkSt NdR w VS w1 B g n cap (C.set j ((⟨((m : Nat) : Int), ((m + 1 : Nat) : Int), name, kids⟩ : Nd), v0))) := S2.out.below hbc
      clear hbc S2
      have c3_2 : w1.cell? ⟨g, j * 4 + 2, none⟩ = some (.string name) := by
        have := S3.out.cell j 2 (HLn.out _) (by decide)
        rw [HAt.out] at this
        exact this
      have fr3_2 : w1.frozen? ⟨g, j * 4 + 2, none⟩ = false := S3.out.free _
      have S4 : Hid (MarkSt NdR w VS (w1.setCell ⟨g, j * 4 + 2, none⟩ (.string T0)) B g n cap (C.set j ((⟨((m : Nat) : Int), ((m + 1 : Nat) : Int), T0, kids⟩ : Nd), v0))) := by
        have := S3.out.field j 2 (HLn.out _) (by decide) ((⟨((m : Nat) : Int), ((m + 1 : Nat) : Int), T0, kids⟩ : Nd), v0) (.string T0) (by rw [HAt.out]; rfl) (by rw [HAt.out]; rfl) (fun W B h => by rw [HAt.out] at h; exact h)
        rw [List.set_set] at this
        exact this
      have c4_3 : w1.cell? ⟨g, j * 4 + 3, none⟩ = some (v0) := by
        have := S3.out.cell j 3 (HLn.out _) (by decide)
        rw [HAt.out] at this
        exact this
      go_wp2_with fail
      clear c3_2 fr3_2 c4_3 S3
      have hsub : OwnsI (w1.setCell ⟨g, j * 4 + 2, none⟩ (.string T0)) B v0 kids := by
        have := S4.out.phys.2 _ (List.getElem_mem (HLn.out _))
        rw [HAt.out] at this
        exact this
      go_at_call 47
      refine (markIntS_any B v0 (m + 3) kids _ (by first | omega | (rw [← lnI_len]; omega)) hsub).mono ?_
      rintro e' w2 ⟨rfl, hsub2, hk⟩
      obtain ⟨X3, HX3⟩ : ∃ X, Hid (markL mkI lnI (m + 3) kids = X) := ⟨_, (rfl : markL mkI lnI (m + 3) kids = _)⟩
      rw [HX3.out] at hsub2
      obtain ⟨m2, Hm2⟩ : ∃ x, Hid (m + 3 + kids.length = x) := ⟨_, (rfl : m + 3 + kids.length = _)⟩
      rw [Hm2.out]
      have hm2a : m2 + 0 ≤ 1000000000 := by rw [← Hm2.out]; first | omega | (rw [← lnI_len]; omega)
      have hm2b : 0 < m2 := by have := Hm2.out; omega
      have S5 : Hid (MarkSt NdR w VS w2 B g n cap (C.set j ((⟨((m : Nat) : Int), ((m + 1 : Nat) : Int), T0, X3⟩ : Nd), v0))) := by
        have := S4.out.inner j (HLn.out _) ((⟨((m : Nat) : Int), ((m + 1 : Nat) : Int), T0, X3⟩ : Nd), v0) (by rw [HAt.out]; rfl) (by rw [HAt.out]; rfl) (by rw [HAt.out]; exact hk) hsub2
        rw [List.set_set] at this
        exact this
      clear hsub hsub2 hk S4
      have HF : Hid (MarkSt NdR w VS w2 B g n cap (markTo mkNdP lnNdP k ps (j + 1))) := by
        have h1 := HST.out ((⟨((m : Nat) : Int), ((m + 1 : Nat) : Int), T0, X3⟩ : Nd), v0) (by
          simp only [mkNdP, mkNd]
          rw [← HT0.out, ← HX3.out]; try rw [← Hm2.out]
          try rw [lnI_len]
          try rfl)
        rw [← h1]
        exact S5.out
      have HE : Hid (m2 = k + markN lnNdP (ps.take (j + 1))) := by
        show _ = _
        rw [← HNX.out, ← Hm2.out]
        simp only [lnNdP, lnNd, lnI_len]
        try omega
      clear S5
      go_wp2
      go_roundw
      case rel => exact ⟨j + 1, m2, by omega, by go_num, by go_num, HE, HF⟩
      case measure => simp [intOf]; omega
    · have hjn : Hid (j = n) := (by omega : j = n)
      have HE : Hid (m = k + markN lnNdP ps) := by show _ = _; rw [HM.out, List.take_of_length_le (by have := HN.out; have := hjn.out; omega)]
      have HF : Hid (MarkSt NdR w VS wr B g n cap (markL mkNdP lnNdP k ps)) := by
        have := H0.out
        rw [markTo_all mkNdP lnNdP k ps j (by have := HN.out; have := hjn.out; omega)] at this
        exact this
      go_wp2
      go_ret
      exact ⟨by rw [← HE.out]; rfl, HF.out.phys, HF.out.kept⟩
theorem markNodeS_none (ao : Option Addr) (c : Nat) (k : Int) (w : World) :
    Calls Try.prog 30 #[.slice ao 0 c, .int .i64 k] w fun e w' => e = .returned (.int .i64 k) ∧ w' = w := by
  go_enter Try.func30, Try.ntmps30
  go_wp2
  refine wp_loop_rounds 1 ?_
  rw [rounds_succ]
  go_wp2
  go_ret
  exact ⟨rfl, rfl⟩
theorem markNodeS_any (B : Nat) (v : Value) (k : Nat) (ps : List (Nd × Value)) (w : World) (hb : k + markN lnNdP ps ≤ 1000000000) (hk0 : 0 < k) (hown : NdR.Phys w B v ps) (hA : (fps (NdR.all v ps)).Nodup) :
    Calls Try.prog 30 #[v, .int .i64 (k : Int)] w fun e' w' => e' = .returned (.int .i64 ((k + markN lnNdP ps : Nat) : Int)) ∧ NdR.Phys w' B v (markL mkNdP lnNdP k ps) ∧ Kept (NdR.all v ps) w w' := by
  rcases OwnsR.form hown.1 with ⟨rfl, rfl⟩ | ⟨g, cap, rfl, _, _⟩
  · refine (markNodeS_none none 0 k w).mono ?_
    rintro e' w' ⟨rfl, rfl⟩
    exact ⟨rfl, hown, Kept.refl _ _⟩
  · exact markNodeS_some B g cap k _ ps w rfl hb hk0 hown hA

end Go.Proofs.Ytljphnjmeckpbaa

namespace Go.Proofs.Ytljphnjmeckpbaa
open Go.RowKit

theorem all_flatPm (v : Value) (ps : List Pm) : PmR.all v ps = [v] := by simp [RowTy.all, PmR, flat_nil]
def mkPm (k : Nat) (_x : Pm) : Pm := ⟨mkT (k), ((k + 1 : Nat) : Int)⟩
def lnPm (_x : Pm) : Nat := 0 + 2

set_option maxRecDepth 100000 in
set_option maxHeartbeats 3200000 in
theorem markParamS_some (B g cap k n : Nat) (ps : List (Pm)) (w : World) (HN : Hid (n = ps.length)) (hb : k + markN lnPm ps ≤ 1000000000) (hk0 : 0 < k) (hown : PmR.Phys w B (.slice (some ⟨g, 0, none⟩) n cap) ps) (hA : (fps (PmR.all (.slice (some ⟨g, 0, none⟩) n cap) ps)).Nodup) :
    Calls Try.prog 48 #[.slice (some ⟨g, 0, none⟩) n cap, .int .i64 (k : Int)] w fun e' w' => e' = .returned (.int .i64 ((k + markN lnPm ps : Nat) : Int)) ∧ PmR.Phys w' B (.slice (some ⟨g, 0, none⟩) n cap) (markL mkPm lnPm k ps) ∧ Kept (PmR.all (.slice (some ⟨g, 0, none⟩) n cap) ps) w w' := by
  have hnl : n ≤ 1000000000 := by have h1 := len_markN lnPm (fun p => by unfold lnPm; omega) ps; have := HN.out; omega
  obtain ⟨VS, HVS⟩ : ∃ VS, Hid (PmR.all (.slice (some ⟨g, 0, none⟩) n cap) ps = VS) := ⟨_, (rfl : PmR.all (.slice (some ⟨g, 0, none⟩) n cap) ps = PmR.all (.slice (some ⟨g, 0, none⟩) n cap) ps)⟩
  have HO : Hid (MarkSt PmR w VS w B g n cap (markTo mkPm lnPm k ps 0)) := by
    rw [markTo_zero]
    exact ⟨hown, HVS.out, by rw [← HVS.out]; exact hA, HN.out, Kept.refl _ _⟩
  rw [HVS.out]
  clear hown hA
  go_enter Try.func48, Try.ntmps48
  go_wp2
  go_loopw [1, 5] (fun kk i wr => ∃ (j m : Nat), j ≤ n ∧ i = .int .i64 (j : Int) ∧ kk = .int .i64 (m : Int) ∧ Hid (m = k + markN lnPm (ps.take j)) ∧ Hid (MarkSt PmR w VS wr B g n cap (markTo mkPm lnPm k ps j)))
    (fun _ i _ => n - (intOf i).toNat)
  case atStart => exact ⟨0, k, Nat.zero_le _, rfl, rfl, by show _ = _; simp [markN], HO⟩
  case round =>
    obtain ⟨j, m, hj, rfl, rfl, HM, H0⟩ := hrel
    clear HO
    by_cases hlt : j < n
    · have hj0 : (0 : Int) ≤ (j : Int) := by omega
      have hj1 : (j : Int) < (n : Int) := by omega
      have hjp : j < ps.length := by have := HN.out; omega
      have hm0 : 0 < m := by have := HM.out; omega
      obtain ⟨q, hq⟩ : ∃ q, Hid (ps[j] = q) := ⟨_, (rfl : ps[j] = ps[j])⟩
      have hmb : m + lnPm q ≤ 1000000000 := by
        have h1 := markN_take lnPm ps j hjp
        have h2 := markN_take_le lnPm ps (j + 1)
        have := HM.out
        rw [hq.out] at h1
        omega
      have HNX : Hid (m + lnPm q = k + markN lnPm (ps.take (j + 1))) := by
        show _ = _
        rw [markN_take lnPm ps j hjp, hq.out, HM.out, Nat.add_assoc]
      have HST : Hid (∀ y, y = mkPm m q → (markTo mkPm lnPm k ps j).set j y = markTo mkPm lnPm k ps (j + 1)) := fun y hy => markTo_step mkPm lnPm k ps j hjp y (by rw [hy, hq.out, HM.out])
      have hCl : j < (markTo mkPm lnPm k ps j).length := by rw [markTo_len]; exact hjp
      have hC0 : (markTo mkPm lnPm k ps j).set j q = markTo mkPm lnPm k ps j := by
        have := markTo_at mkPm lnPm k ps j hjp
        rw [hq.out] at this
        rw [← this]
        exact List.set_getElem_self hCl
      obtain ⟨C, hC⟩ : ∃ C, Hid (markTo mkPm lnPm k ps j = C) := ⟨_, (rfl : markTo mkPm lnPm k ps j = markTo mkPm lnPm k ps j)⟩
      rw [hC.out] at H0 HST hCl hC0
      have hl : ∀ y, j < (C.set j y).length := fun y => by rw [List.length_set]; exact hCl
      have HLn : Hid (∀ y, j < (C.set j y).length) := hl
      have HAt : Hid (∀ y, (C.set j y)[j]'(HLn.out y) = y) := fun y => List.getElem_set_self _
      obtain ⟨name, ty⟩ := q
      have S0 : Hid (MarkSt PmR w VS wr B g n cap (C.set j (⟨name, ty⟩ : Pm))) := by rw [hC0]; exact H0.out
      simp only [lnPm] at hmb
      clear H0 hC0 hl hCl
      go_wp2_with fail
      go_at_call 32
      refine (markText_any (m) _ (by omega) (by omega)).mono ?_
      rintro e' w1 ⟨rfl, hbc⟩
      obtain ⟨T0, HT0⟩ : ∃ T, Hid (mkT (m) = T) := ⟨_, (rfl : mkT (m) = mkT (m))⟩
      rw [HT0.out]
      have S1 : Hid (MarkSt PmR w VS w1 B g n cap (C.set j (⟨name, ty⟩ : Pm))) := S0.out.below hbc
      clear hbc S0
      have c1_0 : w1.cell? ⟨g, j * 2, none⟩ = some (.string name) := by
        have := S1.out.cell j 0 (HLn.out _) (by decide)
        rw [HAt.out] at this
        exact this
      have fr1_0 : w1.frozen? ⟨g, j * 2, none⟩ = false := S1.out.free _
      have S2 : Hid (MarkSt PmR w VS (w1.setCell ⟨g, j * 2, none⟩ (.string T0)) B g n cap (C.set j (⟨T0, ty⟩ : Pm))) := by
        have := S1.out.field j 0 (HLn.out _) (by decide) (⟨T0, ty⟩ : Pm) (.string T0) (by rw [HAt.out]; rfl) (by rw [HAt.out]; rfl) (fun W B h => by rw [HAt.out] at h; exact h)
        rw [List.set_set] at this
        exact this
      have c2_1 : w1.cell? ⟨g, j * 2 + 1, none⟩ = some (.int .i64 ty) := by
        have := S1.out.cell j 1 (HLn.out _) (by decide)
        rw [HAt.out] at this
        exact this
      have fr2_1 : w1.frozen? ⟨g, j * 2 + 1, none⟩ = false := S1.out.free _
      have S3 : Hid (MarkSt PmR w VS ((w1.setCell ⟨g, j * 2, none⟩ (.string T0)).setCell ⟨g, j * 2 + 1, none⟩ (.int .i64 ((m + 1 : Nat) : Int))) B g n cap (C.set j (⟨T0, ((m + 1 : Nat) : Int)⟩ : Pm))) := by
        have := S2.out.field j 1 (HLn.out _) (by decide) (⟨T0, ((m + 1 : Nat) : Int)⟩ : Pm) (.int .i64 ((m + 1 : Nat) : Int)) (by rw [HAt.out]; rfl) (by rw [HAt.out]; rfl) (fun W B h => by rw [HAt.out] at h; exact h)
        rw [List.set_set] at this
        exact this
      clear S2
      have HF : Hid (MarkSt PmR w VS ((w1.setCell ⟨g, j * 2, none⟩ (.string T0)).setCell ⟨g, j * 2 + 1, none⟩ (.int .i64 ((m + 1 : Nat) : Int))) B g n cap (markTo mkPm lnPm k ps (j + 1))) := by
        have h1 := HST.out (⟨T0, ((m + 1 : Nat) : Int)⟩ : Pm) (by
          simp only [mkPm]
          rw [← HT0.out]
          try rw [lnI_len]
          try rfl)
        rw [← h1]
        exact S3.out
      have HE : Hid (m + 2 = k + markN lnPm (ps.take (j + 1))) := by
        show _ = _
        rw [← HNX.out]
        simp only [lnPm]
        try omega
      clear S3 S1
      go_wp2
      go_roundw
      case rel => exact ⟨j + 1, m + 2, by omega, by go_num, by go_num, HE, HF⟩
      case measure => simp [intOf]; omega
    · have hjn : Hid (j = n) := (by omega : j = n)
      have HE : Hid (m = k + markN lnPm ps) := by show _ = _; rw [HM.out, List.take_of_length_le (by have := HN.out; have := hjn.out; omega)]
      have HF : Hid (MarkSt PmR w VS wr B g n cap (markL mkPm lnPm k ps)) := by
        have := H0.out
        rw [markTo_all mkPm lnPm k ps j (by have := HN.out; have := hjn.out; omega)] at this
        exact this
      go_wp2
      go_ret
      exact ⟨by rw [← HE.out]; rfl, HF.out.phys, HF.out.kept⟩
theorem markParamS_none (ao : Option Addr) (c : Nat) (k : Int) (w : World) :
    Calls Try.prog 48 #[.slice ao 0 c, .int .i64 k] w fun e w' => e = .returned (.int .i64 k) ∧ w' = w := by
  go_enter Try.func48, Try.ntmps48
  go_wp2
  refine wp_loop_rounds 1 ?_
  rw [rounds_succ]
  go_wp2
  go_ret
  exact ⟨rfl, rfl⟩
theorem markParamS_any (B : Nat) (v : Value) (k : Nat) (ps : List (Pm)) (w : World) (hb : k + markN lnPm ps ≤ 1000000000) (hk0 : 0 < k) (hown : PmR.Phys w B v ps) (hA : (fps (PmR.all v ps)).Nodup) :
    Calls Try.prog 48 #[v, .int .i64 (k : Int)] w fun e' w' => e' = .returned (.int .i64 ((k + markN lnPm ps : Nat) : Int)) ∧ PmR.Phys w' B v (markL mkPm lnPm k ps) ∧ Kept (PmR.all v ps) w w' := by
  rcases OwnsR.form hown.1 with ⟨rfl, rfl⟩ | ⟨g, cap, rfl, _, _⟩
  · refine (markParamS_none none 0 k w).mono ?_
    rintro e' w' ⟨rfl, rfl⟩
    exact ⟨rfl, hown, Kept.refl _ _⟩
  · exact markParamS_some B g cap k _ ps w rfl hb hk0 hown hA

end Go.Proofs.Ytljphnjmeckpbaa

namespace Go.Proofs.Ytljphnjmeckpbaa
open Go.RowKit

def mkFc (k : Nat) (x : Fc) : Fc := ⟨mkT (k), markL mkPm lnPm (k + 1) x.params, (((k + 1 + markN lnPm x.params) : Nat) : Int), (((k + 1 + markN lnPm x.params) + 1 : Nat) : Int), (((k + 1 + markN lnPm x.params) + 2 : Nat) : Int)⟩
def lnFc (x : Fc) : Nat := (0 + 1 + markN lnPm x.params) + 3
def mkFcP (k : Nat) (p : Fc × Value) : Fc × Value := (mkFc k p.1, p.2)
def lnFcP (p : Fc × Value) : Nat := lnFc p.1

set_option maxRecDepth 100000 in
set_option maxHeartbeats 3200000 in
theorem markFnS_some (B g cap k n : Nat) (ps : List (Fc × Value)) (w : World) (HN : Hid (n = ps.length)) (hb : k + markN lnFcP ps ≤ 1000000000) (hk0 : 0 < k) (hown : FcR.Phys w B (.slice (some ⟨g, 0, none⟩) n cap) ps) (hA : (fps (FcR.all (.slice (some ⟨g, 0, none⟩) n cap) ps)).Nodup) :
    Calls Try.prog 31 #[.slice (some ⟨g, 0, none⟩) n cap, .int .i64 (k : Int)] w fun e' w' => e' = .returned (.int .i64 ((k + markN lnFcP ps : Nat) : Int)) ∧ FcR.Phys w' B (.slice (some ⟨g, 0, none⟩) n cap) (markL mkFcP lnFcP k ps) ∧ Kept (FcR.all (.slice (some ⟨g, 0, none⟩) n cap) ps) w w' := by
  have hnl : n ≤ 1000000000 := by have h1 := len_markN lnFcP (fun p => by unfold lnFcP lnFc; omega) ps; have := HN.out; omega
  obtain ⟨VS, HVS⟩ : ∃ VS, Hid (FcR.all (.slice (some ⟨g, 0, none⟩) n cap) ps = VS) := ⟨_, (rfl : FcR.all (.slice (some ⟨g, 0, none⟩) n cap) ps = FcR.all (.slice (some ⟨g, 0, none⟩) n cap) ps)⟩
  have HO : Hid (MarkSt FcR w VS w B g n cap (markTo mkFcP lnFcP k ps 0)) := by
    rw [markTo_zero]
    exact ⟨hown, HVS.out, by rw [← HVS.out]; exact hA, HN.out, Kept.refl _ _⟩
  rw [HVS.out]
  clear hown hA
  go_enter Try.func31, Try.ntmps31
  go_wp2
  go_loopw [1, 5] (fun kk i wr => ∃ (j m : Nat), j ≤ n ∧ i = .int .i64 (j : Int) ∧ kk = .int .i64 (m : Int) ∧ Hid (m = k + markN lnFcP (ps.take j)) ∧ Hid (MarkSt FcR w VS wr B g n cap (markTo mkFcP lnFcP k ps j)))
    (fun _ i _ => n - (intOf i).toNat)
  case atStart => exact ⟨0, k, Nat.zero_le _, rfl, rfl, by show _ = _; simp [markN], HO⟩
  case round =>
    obtain ⟨j, m, hj, rfl, rfl, HM, H0⟩ := hrel
    clear HO
    by_cases hlt : j < n
    · have hj0 : (0 : Int) ≤ (j : Int) := by omega
      have hj1 : (j : Int) < (n : Int) := by omega
      have hjp : j < ps.length := by have := HN.out; omega
      have hm0 : 0 < m := by have := HM.out; omega
      obtain ⟨q, hq⟩ : ∃ q, Hid (ps[j] = q) := ⟨_, (rfl : ps[j] = ps[j])⟩
      have hmb : m + lnFcP q ≤ 1000000000 := by
        have h1 := markN_take lnFcP ps j hjp
        have h2 := markN_take_le lnFcP ps (j + 1)
        have := HM.out
        rw [hq.out] at h1
        omega
      have HNX : Hid (m + lnFcP q = k + markN lnFcP (ps.take (j + 1))) := by
        show _ = _
        rw [markN_take lnFcP ps j hjp, hq.out, HM.out, Nat.add_assoc]
      have HST : Hid (∀ y, y = mkFcP m q → (markTo mkFcP lnFcP k ps j).set j y = markTo mkFcP lnFcP k ps (j + 1)) := fun y hy => markTo_step mkFcP lnFcP k ps j hjp y (by rw [hy, hq.out, HM.out])
      have hCl : j < (markTo mkFcP lnFcP k ps j).length := by rw [markTo_len]; exact hjp
      have hC0 : (markTo mkFcP lnFcP k ps j).set j q = markTo mkFcP lnFcP k ps j := by
        have := markTo_at mkFcP lnFcP k ps j hjp
        rw [hq.out] at this
        rw [← this]
        exact List.set_getElem_self hCl
      obtain ⟨C, hC⟩ : ∃ C, Hid (markTo mkFcP lnFcP k ps j = C) := ⟨_, (rfl : markTo mkFcP lnFcP k ps j = markTo mkFcP lnFcP k ps j)⟩
      rw [hC.out] at H0 HST hCl hC0
      have hl : ∀ y, j < (C.set j y).length := fun y => by rw [List.length_set]; exact hCl
      have HLn : Hid (∀ y, j < (C.set j y).length) := hl
      have HAt : Hid (∀ y, (C.set j y)[j]'(HLn.out y) = y) := fun y => List.getElem_set_self _
      obtain ⟨⟨name, params, res, body, ret⟩, v0⟩ := q
      have S0 : Hid (MarkSt FcR w VS wr B g n cap (C.set j ((⟨name, params, res, body, ret⟩ : Fc), v0))) := by rw [hC0]; exact H0.out
      simp only [lnFcP, lnFc] at hmb
      clear H0 hC0 hl hCl
      go_wp2_with fail
      go_at_call 32
      refine (markText_any (m) _ (by omega) (by omega)).mono ?_
      rintro e' w1 ⟨rfl, hbc⟩
      obtain ⟨T0, HT0⟩ : ∃ T, Hid (mkT (m) = T) := ⟨_, (rfl : mkT (m) = mkT (m))⟩
      rw [HT0.out]
      have S1 : Hid (MarkSt FcR w VS w1 B g n cap (C.set j ((⟨name, params, res, body, ret⟩ : Fc), v0))) := S0.out.below hbc
      clear hbc S0
      have c1_0 : w1.cell? ⟨g, j * 5, none⟩ = some (.string name) := by
        have := S1.out.cell j 0 (HLn.out _) (by decide)
        rw [HAt.out] at this
        exact this
      have fr1_0 : w1.frozen? ⟨g, j * 5, none⟩ = false := S1.out.free _
      have S2 : Hid (MarkSt FcR w VS (w1.setCell ⟨g, j * 5, none⟩ (.string T0)) B g n cap (C.set j ((⟨T0, params, res, body, ret⟩ : Fc), v0))) := by
        have := S1.out.field j 0 (HLn.out _) (by decide) ((⟨T0, params, res, body, ret⟩ : Fc), v0) (.string T0) (by rw [HAt.out]; rfl) (by rw [HAt.out]; rfl) (fun W B h => by rw [HAt.out] at h; exact h)
        rw [List.set_set] at this
        exact this
      have c2_1 : w1.cell? ⟨g, j * 5 + 1, none⟩ = some (v0) := by
        have := S1.out.cell j 1 (HLn.out _) (by decide)
        rw [HAt.out] at this
        exact this
      go_wp2_with fail
      clear c1_0 fr1_0 c2_1 S1
      have hsub : PmR.Phys (w1.setCell ⟨g, j * 5, none⟩ (.string T0)) B v0 params := by
        have := S2.out.phys.2 _ (List.getElem_mem (HLn.out _))
        rw [HAt.out] at this
        exact this
      go_at_call 48
      refine (markParamS_any B v0 (m + 1) params _ (by omega) (by omega) hsub (by rw [all_flatPm]; exact fp_nodup v0)).mono ?_
      rintro e' w2 ⟨rfl, hsub2, hk⟩
      obtain ⟨X1, HX1⟩ : ∃ X, Hid (markL mkPm lnPm (m + 1) params = X) := ⟨_, (rfl : markL mkPm lnPm (m + 1) params = _)⟩
      rw [HX1.out] at hsub2
      obtain ⟨m2, Hm2⟩ : ∃ x, Hid (m + 1 + markN lnPm params = x) := ⟨_, (rfl : m + 1 + markN lnPm params = _)⟩
      rw [Hm2.out]
      have hm2a : m2 + 3 ≤ 1000000000 := by rw [← Hm2.out]; omega
      have hm2b : 0 < m2 := by have := Hm2.out; omega
      have S3 : Hid (MarkSt FcR w VS w2 B g n cap (C.set j ((⟨T0, X1, res, body, ret⟩ : Fc), v0))) := by
        have := S2.out.inner j (HLn.out _) ((⟨T0, X1, res, body, ret⟩ : Fc), v0) (by rw [HAt.out]; rfl) (by rw [HAt.out]; rfl) (by rw [HAt.out]; exact (by rw [all_flatPm] at hk; exact hk)) hsub2
        rw [List.set_set] at this
        exact this
      clear hsub hsub2 hk S2
      have c3_2 : w2.cell? ⟨g, j * 5 + 2, none⟩ = some (.int .i64 res) := by
        have := S3.out.cell j 2 (HLn.out _) (by decide)
        rw [HAt.out] at this
        exact this
      have fr3_2 : w2.frozen? ⟨g, j * 5 + 2, none⟩ = false := S3.out.free _
      have S4 : Hid (MarkSt FcR w VS (w2.setCell ⟨g, j * 5 + 2, none⟩ (.int .i64 ((m2 : Nat) : Int))) B g n cap (C.set j ((⟨T0, X1, ((m2 : Nat) : Int), body, ret⟩ : Fc), v0))) := by
        have := S3.out.field j 2 (HLn.out _) (by decide) ((⟨T0, X1, ((m2 : Nat) : Int), body, ret⟩ : Fc), v0) (.int .i64 ((m2 : Nat) : Int)) (by rw [HAt.out]; rfl) (by rw [HAt.out]; rfl) (fun W B h => by rw [HAt.out] at h; exact h)
        rw [List.set_set] at this
        exact this
      have c4_3 : w2.cell? ⟨g, j * 5 + 3, none⟩ = some (.int .i64 body) := by
        have := S3.out.cell j 3 (HLn.out _) (by decide)
        rw [HAt.out] at this
        exact this
      have fr4_3 : w2.frozen? ⟨g, j * 5 + 3, none⟩ = false := S3.out.free _
      have S5 : Hid (MarkSt FcR w VS ((w2.setCell ⟨g, j * 5 + 2, none⟩ (.int .i64 ((m2 : Nat) : Int))).setCell ⟨g, j * 5 + 3, none⟩ (.int .i64 ((m2 + 1 : Nat) : Int))) B g n cap (C.set j ((⟨T0, X1, ((m2 : Nat) : Int), ((m2 + 1 : Nat) : Int), ret⟩ : Fc), v0))) := by
        have := S4.out.field j 3 (HLn.out _) (by decide) ((⟨T0, X1, ((m2 : Nat) : Int), ((m2 + 1 : Nat) : Int), ret⟩ : Fc), v0) (.int .i64 ((m2 + 1 : Nat) : Int)) (by rw [HAt.out]; rfl) (by rw [HAt.out]; rfl) (fun W B h => by rw [HAt.out] at h; exact h)
        rw [List.set_set] at this
        exact this
      clear S4
      have c5_4 : w2.cell? ⟨g, j * 5 + 4, none⟩ = some (.int .i64 ret) := by
        have := S3.out.cell j 4 (HLn.out _) (by decide)
        rw [HAt.out] at this
        exact this
      have fr5_4 : w2.frozen? ⟨g, j * 5 + 4, none⟩ = false := S3.out.free _
      have S6 : Hid (MarkSt FcR w VS (((w2.setCell ⟨g, j * 5 + 2, none⟩ (.int .i64 ((m2 : Nat) : Int))).setCell ⟨g, j * 5 + 3, none⟩ (.int .i64 ((m2 + 1 : Nat) : Int))).setCell ⟨g, j * 5 + 4, none⟩ (.int .i64 ((m2 + 2 : Nat) : Int))) B g n cap (C.set j ((⟨T0, X1, ((m2 : Nat) : Int), ((m2 + 1 : Nat) : Int), ((m2 + 2 : Nat) : Int)⟩ : Fc), v0))) := by
        have := S5.out.field j 4 (HLn.out _) (by decide) ((⟨T0, X1, ((m2 : Nat) : Int), ((m2 + 1 : Nat) : Int), ((m2 + 2 : Nat) : Int)⟩ : Fc), v0) (.int .i64 ((m2 + 2 : Nat) : Int)) (by rw [HAt.out]; rfl) (by rw [HAt.out]; rfl) (fun W B h => by rw [HAt.out] at h; exact h)
        rw [List.set_set] at this
        exact this
      clear S5
      have HF : Hid (MarkSt FcR w VS (((w2.setCell ⟨g, j * 5 + 2, none⟩ (.int .i64 ((m2 : Nat) : Int))).setCell ⟨g, j * 5 + 3, none⟩ (.int .i64 ((m2 + 1 : Nat) : Int))).setCell ⟨g, j * 5 + 4, none⟩ (.int .i64 ((m2 + 2 : Nat) : Int))) B g n cap (markTo mkFcP lnFcP k ps (j + 1))) := by
        have h1 := HST.out ((⟨T0, X1, ((m2 : Nat) : Int), ((m2 + 1 : Nat) : Int), ((m2 + 2 : Nat) : Int)⟩ : Fc), v0) (by
          simp only [mkFcP, mkFc]
          rw [← HT0.out, ← HX1.out]; try rw [← Hm2.out]
          try rw [lnI_len]
          try rfl)
        rw [← h1]
        exact S6.out
      have HE : Hid (m2 + 3 = k + markN lnFcP (ps.take (j + 1))) := by
        show _ = _
        rw [← HNX.out, ← Hm2.out]
        simp only [lnFcP, lnFc]
        try omega
      clear S6 S3
      go_wp2
      go_roundw
      case rel => exact ⟨j + 1, m2 + 3, by omega, by go_num, by go_num, HE, HF⟩
      case measure => simp [intOf]; omega
    · have hjn : Hid (j = n) := (by omega : j = n)
      have HE : Hid (m = k + markN lnFcP ps) := by show _ = _; rw [HM.out, List.take_of_length_le (by have := HN.out; have := hjn.out; omega)]
      have HF : Hid (MarkSt FcR w VS wr B g n cap (markL mkFcP lnFcP k ps)) := by
        have := H0.out
        rw [markTo_all mkFcP lnFcP k ps j (by have := HN.out; have := hjn.out; omega)] at this
        exact this
      go_wp2
      go_ret
      exact ⟨by rw [← HE.out]; rfl, HF.out.phys, HF.out.kept⟩
theorem markFnS_none (ao : Option Addr) (c : Nat) (k : Int) (w : World) :
    Calls Try.prog 31 #[.slice ao 0 c, .int .i64 k] w fun e w' => e = .returned (.int .i64 k) ∧ w' = w := by
  go_enter Try.func31, Try.ntmps31
  go_wp2
  refine wp_loop_rounds 1 ?_
  rw [rounds_succ]
  go_wp2
  go_ret
  exact ⟨rfl, rfl⟩
theorem markFnS_any (B : Nat) (v : Value) (k : Nat) (ps : List (Fc × Value)) (w : World) (hb : k + markN lnFcP ps ≤ 1000000000) (hk0 : 0 < k) (hown : FcR.Phys w B v ps) (hA : (fps (FcR.all v ps)).Nodup) :
    Calls Try.prog 31 #[v, .int .i64 (k : Int)] w fun e' w' => e' = .returned (.int .i64 ((k + markN lnFcP ps : Nat) : Int)) ∧ FcR.Phys w' B v (markL mkFcP lnFcP k ps) ∧ Kept (FcR.all v ps) w w' := by
  rcases OwnsR.form hown.1 with ⟨rfl, rfl⟩ | ⟨g, cap, rfl, _, _⟩
  · refine (markFnS_none none 0 k w).mono ?_
    rintro e' w' ⟨rfl, rfl⟩
    exact ⟨rfl, hown, Kept.refl _ _⟩
  · exact markFnS_some B g cap k _ ps w rfl hb hk0 hown hA

end Go.Proofs.Ytljphnjmeckpbaa

namespace Go.Proofs.Ytljphnjmeckpbaa
open Go.RowKit

/-- Only blocks B .. H may have turned; new ones may be there. -/
structure Rim (B H : Nat) (w w' : World) : Prop where
  os : w'.os = w.os
  tape : w'.tape = w.tape
  output : w'.output = w.output
  size : w.heap.size ≤ w'.heap.size
  block : ∀ g, g < w.heap.size → g < B ∨ H ≤ g → w'.heap[g]? = w.heap[g]?
theorem Rim.refl (B H : Nat) (w : World) : Rim B H w w := ⟨rfl, rfl, rfl, Nat.le_refl _, fun _ _ _ => rfl⟩
theorem Rim.trans {B H : Nat} {a b c : World} (h : Rim B H a b) (k : Rim B H b c) : Rim B H a c :=
  ⟨k.os.trans h.os, k.tape.trans h.tape, k.output.trans h.output, Nat.le_trans h.size k.size, fun g hg hn => (k.block g (Nat.lt_of_lt_of_le hg h.size) hn).trans (h.block g hg hn)⟩
theorem Rim.of_kept {vs : List Value} {B H : Nat} {w w' : World} (h : Kept vs w w') (hf : ∀ g ∈ fps vs, B ≤ g ∧ g < H) : Rim B H w w' :=
  ⟨h.os, h.tape, h.output, h.size, fun g hg hn => h.block g hg (fun hm => by have := hf g hm; omega)⟩
theorem Rim.of_below {B H : Nat} {w w' : World} (h : Below w.heap.size w w') : Rim B H w w' := ⟨h.os, h.tape, h.output, h.size, fun g hg _ => h.block g hg⟩
theorem Rim.below {B H : Nat} {w w' : World} (h : Rim B H w w') (hB : B ≤ w.heap.size) : Below B w w' := ⟨h.os, h.tape, h.output, h.size, fun g hg => h.block g (by omega) (.inl hg)⟩

theorem markN_sz {α : Type} (ln sz : α → Nat) (h : ∀ x, ln x ≤ 4 + 4 * sz x) : ∀ xs : List α, markN ln xs ≤ 4 * szRow sz xs := by
  intro xs
  induction xs with
  | nil => exact Nat.zero_le _
  | cons x xs ih =>
    have := h x
    unfold szRow at ih ⊢
    simp only [markN, List.length_cons, List.map_cons, List.sum_cons]
    omega
theorem lnNd_sz (ns : List Nd) : markN lnNd ns ≤ 4 * szRow szNd ns := markN_sz lnNd szNd (fun x => by unfold lnNd szNd; rw [lnI_len]; omega) ns
theorem lnPm_sz (ps : List Pm) : markN lnPm ps ≤ 4 * szRow szPm ps := markN_sz lnPm szPm (fun x => by unfold lnPm; omega) ps
theorem lnFc_sz (fs : List Fc) : markN lnFc fs ≤ 4 * szRow szFc fs := markN_sz lnFc szFc (fun x => by unfold lnFc szFc; have := lnPm_sz x.params; omega) fs
theorem lnNdP_map (ps : List (Nd × Value)) : markN lnNdP ps = markN lnNd (ps.map Prod.fst) := markN_map (ln' := lnNd) (log := Prod.fst) (fun _ => rfl) ps
theorem lnFcP_map (ps : List (Fc × Value)) : markN lnFcP ps = markN lnFc (ps.map Prod.fst) := markN_map (ln' := lnFc) (log := Prod.fst) (fun _ => rfl) ps

set_option maxRecDepth 100000 in
set_option maxHeartbeats 1600000 in
theorem markProgram_any (B H : Nat) (v0 v1 : Value) (p : Pg) (w : World) (hO : OwnPg w B H v0 v1 p) (hH : H ≤ w.heap.size) (hl : szPg p ≤ 1048576) :
    Calls Try.prog 11 #[.agg #[v0, v1], .int .i64 1] w fun e w' => (∃ r : Nat, e = .returned (.int .i64 (r : Int)) ∧ r ≤ 10000000 ∧ 0 < r) ∧ Rim B H w w' := by
  obtain ⟨M, hBM, hMH, hN, hF⟩ := hO
  obtain ⟨ps, hps, hpp, hpn, hpb⟩ := hN
  obtain ⟨fs, hfs, hfp, hfn, hfb⟩ := hF
  have hb1 : 1 + markN lnNdP ps + markN lnFcP fs ≤ 10000000 := by
    have h1 := lnNd_sz p.nodes
    have h2 := lnFc_sz p.fns
    have e1 : markN lnNdP ps = markN lnNd p.nodes := by rw [lnNdP_map, ← hps]; rfl
    have e2 : markN lnFcP fs = markN lnFc p.fns := by rw [lnFcP_map, ← hfs]; rfl
    rw [e1, e2]
    unfold szPg at hl
    omega
  have cN : Hid (∀ W, Below w.heap.size w W → Calls Try.prog 30 #[v0, .int .i64 ((1 : Nat) : Int)] W fun e' w' => e' = .returned (.int .i64 ((1 + markN lnNdP ps : Nat) : Int)) ∧ NdR.Phys w' B v0 (markL mkNdP lnNdP 1 ps) ∧ Kept (NdR.all v0 ps) W w') := fun W hW =>
    markNodeS_any B v0 1 ps W (by omega) (by omega) (hpp.below hW) hpn
  have cF : Hid (∀ W, FcR.Phys W M v1 fs → Calls Try.prog 31 #[v1, .int .i64 ((1 + markN lnNdP ps : Nat) : Int)] W fun e' w' => e' = .returned (.int .i64 ((1 + markN lnNdP ps + markN lnFcP fs : Nat) : Int)) ∧ FcR.Phys w' M v1 (markL mkFcP lnFcP (1 + markN lnNdP ps) fs) ∧ Kept (FcR.all v1 fs) W w') := fun W hW =>
    markFnS_any M v1 (1 + markN lnNdP ps) fs W (by omega) (by omega) hW hfn
  obtain ⟨k1, hk1⟩ : ∃ k, Hid (1 + markN lnNdP ps = k) := ⟨_, (rfl : 1 + markN lnNdP ps = _)⟩
  rw [hk1.out] at cN cF hb1
  obtain ⟨k2, hk2⟩ : ∃ k, Hid (k1 + markN lnFcP fs = k) := ⟨_, (rfl : k1 + markN lnFcP fs = _)⟩
  rw [hk2.out] at cF hb1
  have HP : Hid (FcR.Phys w M v1 fs ∧ (∀ g ∈ fps (NdR.all v0 ps), B ≤ g ∧ g < M) ∧ ∀ g ∈ fps (FcR.all v1 fs), M ≤ g ∧ g < H) := ⟨hfp, hpb, hfb⟩
  clear hpp hpn hpb hfp hfn hfb hps hfs
  go_enter Try.func11, Try.ntmps11
  go_wp2_with fail
  go_at_call 30
  refine Calls.mono (cN.out _ (by go_grown)) ?_
  rintro e w1 ⟨rfl, _, hk⟩
  have R1 : Hid (Rim B H w w1) := (Rim.of_below ((Below.refl _ _).alloc (Nat.le_refl _) _)).trans (Rim.of_kept hk (fun g hg => by have := HP.out.2.1 g hg; omega))
  have P1 : Hid (FcR.Phys w1 M v1 fs) := (HP.out.1.below ((Below.refl _ _).alloc (Nat.le_refl _) _)).kept hk (fun g hg hm => by have := HP.out.2.1 g hm; have := HP.out.2.2 g hg; omega)
  have q1 : w1.cell? ⟨w.heap.size, 1, none⟩ = some v1 := by
    have h0 := hk.block w.heap.size (by simp) (fun hm => by have := HP.out.2.1 _ hm; omega)
    exact cell_at (h0.trans (heap_alloc_new _ _)) 1
  clear hk cN
  go_wp2_with fail
  go_at_call 31
  refine Calls.mono (cF.out _ P1.out) ?_
  rintro e w2 ⟨rfl, _, hk⟩
  have R2 : Hid (Rim B H w w2) := R1.out.trans (Rim.of_kept hk (fun g hg => by have := HP.out.2.2 g hg; omega))
  clear hk cF q1
  go_wp2
  go_ret
  exact ⟨⟨_, rfl, hb1, by have := hk1.out; have := hk2.out; omega⟩, R2.out⟩

end Go.Proofs.Ytljphnjmeckpbaa

namespace Go.Proofs.Ytljphnjmeckpbaa
open Go.RowKit

theorem OwnsV.row {w : World} {B : Nat} {v : Value} {xs : List Vr} (h : OwnsV w B v xs) : VrR.Row w w.heap.size v xs := ⟨xs, List.map_id _, OwnsR.read vrC_len h (fun g hg => (OwnsR.lt h g hg).2), fun _ _ => trivial⟩
theorem OwnsV.phys {w : World} {B : Nat} {v : Value} {xs : List Vr} (h : OwnsV w B v xs) : VrR.Phys w B v xs := ⟨h, fun _ _ => trivial⟩
theorem OwnsV.rim {w w' : World} {B L H : Nat} {v : Value} {xs : List Vr} (h : OwnsV w B v xs) (hr : Rim L H w w') (hd : ∀ g ∈ fpOf v, g < L ∨ H ≤ g) : OwnsV w' B v xs :=
  OwnsR.same h (fun g hg => hr.block g (OwnsR.lt h g hg).2 (hd g hg))
theorem OwnsV.keptBy {w w' : World} {B : Nat} {v u : Value} {xs : List Vr} (h : OwnsV w B v xs) (hr : Kept [u] w w') (hd : ∀ g ∈ fpOf v, g ∉ fpOf u) : OwnsV w' B v xs :=
  OwnsR.same h (fun g hg => hr.block g (OwnsR.lt h g hg).2 (by rw [fps_one]; exact hd g hg))
theorem OwnsV.any {w : World} {B : Nat} {v : Value} {xs : List Vr} (h : OwnsV w B v xs) : OwnsV w 0 v xs := owns_base h (Nat.zero_le _)
theorem markN_Vr (xs : List Vr) : markN lnVr xs = 3 * xs.length := by
  induction xs with
  | nil => rfl
  | cons x xs ih => simp only [markN, ih, lnVr, List.length_cons]; omega
theorem fpOf_nodup (v : Value) : (fpOf v).Nodup := by
  unfold fpOf
  cases v.ownBlock <;> simp
theorem picks_len' : ∀ (bs : List Bool) (t : Nat), (picks bs t).length ≤ t := picks_len
theorem varsOf_cases (p : Pg) (fn : Int) : varsOf p fn = [] ∨ ∃ f ∈ p.fns, varsOf p fn = varsIn p.nodes f := by
  unfold varsOf
  split
  · rename_i h
    rw [isIn_iff] at h
    have hl : fn.toNat < p.fns.length := by omega
    exact .inr ⟨p.fns[fn.toNat], List.getElem_mem hl, by simp [List.getD, hl]⟩
  · exact .inl rfl
theorem underL_len (ns : List Nd) (k : Int) : (underL ns k).length ≤ ns.length := by
  unfold underL
  split
  · simp
  · rename_i h
    have hk := deep_in7 h
    exact Nat.le_trans (picks_len _ _) (by omega)
theorem varsOf_len {p : Pg} (hl : szPg p ≤ 1048576) (fn : Int) : (varsOf p fn).length ≤ 2097152 := by
  rcases varsOf_cases p fn with h | ⟨f, hf, h⟩
  · rw [h]
    simp
  · rw [h]
    unfold varsIn
    rw [List.length_append, List.length_map]
    have h1 := lets_len p.nodes (underL p.nodes f.body)
    have h2 := underL_len p.nodes f.body
    have h3 := len_szRow szNd p.nodes
    have h4 := le_szPg_nodes p
    have h5 := le_szPg_fns p
    have h6 := mem_szRow szFc hf
    have h7 := le_szFc_params f
    have h8 := len_szRow szPm f.params
    omega
theorem varsOf_sz {p : Pg} (hl : szPg p ≤ 1048576) {fn : Int} {x : Vr} (hx : x ∈ varsOf p fn) : szVr x ≤ 1048576 := by
  rcases varsOf_cases p fn with h | ⟨f, hf, h⟩
  · rw [h] at hx
    simp at hx
  · rw [h] at hx
    unfold varsIn at hx
    have h4 := le_szPg_nodes p
    have h5 := le_szPg_fns p
    rcases List.mem_append.mp hx with hx | hx
    · obtain ⟨q, hq, rfl⟩ := List.mem_map.mp hx
      have h6 := mem_szRow szFc hf
      have h7 := le_szFc_params f
      have h8 := mem_szRow szPm hq
      have h9 : szVr (parV q) = szPm q := rfl
      omega
    · unfold lets at hx
      obtain ⟨k, hk, rfl⟩ := List.mem_map.mp hx
      have hk1 := underL_in (List.mem_filter.mp hk).1
      have hkl : k.toNat < p.nodes.length := by omega
      have h6 := mem_szRow szNd (List.getElem_mem hkl)
      have h7 := le_szNd_name p.nodes[k.toNat]
      have h8 : szVr (letV p.nodes k) = p.nodes[k.toNat].name.size := by
        unfold letV szVr
        simp [List.getD, hkl]
      omega

set_option maxRecDepth 100000 in
set_option maxHeartbeats 1600000 in
theorem eqVarS_len (B : Nat) (va vb : Value) (xs : List Vr) (w : World) (hB : B ≤ w.heap.size) (ha : VrR.Row w B va xs) (hb : VrR.Row w B vb xs) (hl : xs.length ≤ 4194304) (hq : ∀ x ∈ xs, szVr x ≤ 1048576) :
    Calls Try.prog 9 #[va, vb] w fun e w' => e = .returned (.bool true) ∧ Below w.heap.size w w' := by
  obtain ⟨a, ca, rfl⟩ := ha.len
  obtain ⟨b, cb, rfl⟩ := hb.len
  obtain ⟨N, HN⟩ : ∃ N, Hid (xs.length = N) := ⟨_, (rfl : xs.length = xs.length)⟩
  have H : Hid (VrR.Row w B (.slice a N ca) xs ∧ VrR.Row w B (.slice b N cb) xs) := by rw [← HN.out]; exact ⟨ha, hb⟩
  have HS : Hid (∀ x ∈ xs, szVr x ≤ 1048576) := hq
  have hN : N ≤ 4194304 := by have := HN.out; omega
  rw [HN.out]
  clear ha hb hl hq
  go_enter Try.func9, Try.ntmps9
  go_wp2
  go_loopw [5] (fun i wr => ∃ k : Nat, k ≤ N ∧ i = .int .i64 (k : Int) ∧ Below w.heap.size w wr) (fun i _ => N - (intOf i).toNat)
  case atStart => exact ⟨0, Nat.zero_le _, rfl, Below.refl _ _⟩
  case round =>
    obtain ⟨k, hk, rfl, hbw⟩ := hrel
    by_cases hlt : k < N
    · have hk1 : (k : Int) < (N : Int) := by omega
      have hk0 : (0 : Int) ≤ (k : Int) := by omega
      have hkl : k < xs.length := by have := HN.out; omega
      obtain ⟨ba, oa, rfl, hba, c0, c1, c2⟩ := VrR.at H.out.1 k hkl
      obtain ⟨bb, ob, rfl, hbb, e0, e1, e2⟩ := VrR.at H.out.2 k hkl
      have hq : szVr xs[k] ≤ 1048576 := HS.out _ (List.getElem_mem hkl)
      obtain ⟨q, hqe⟩ : ∃ q, Hid (xs[k] = q) := ⟨_, (rfl : xs[k] = xs[k])⟩
      rw [hqe.out] at c0 c1 c2 e0 e1 e2 hq
      have cQ : Hid (∀ W, Below w.heap.size w W → Calls Try.prog 27 #[.agg #[.string q.name, .int .i64 q.ty, .int .i64 q.node], .agg #[.string q.name, .int .i64 q.ty, .int .i64 q.node]] W fun e w' => e = .returned (.bool true) ∧ Below W.heap.size W w') := fun W hW =>
        eqVar_same B q W (Nat.le_trans hB hW.size) hq
      obtain ⟨name, ty, node⟩ := q
      simp only at c0 c1 c2 e0 e1 e2 cQ
      clear hq
      have hba1 : ba < wr.heap.size := by have := hbw.size; omega
      have hbb1 : bb < wr.heap.size := by have := hbw.size; omega
      have d0 := (hbw.cell (p := ⟨ba, oa + k * 3, none⟩) (by show ba < _; omega)).trans c0
      have f0 := (hbw.cell (p := ⟨bb, ob + k * 3, none⟩) (by show bb < _; omega)).trans e0
      have d1 := (hbw.cell (p := ⟨ba, oa + k * 3 + 1, none⟩) (by show ba < _; omega)).trans c1
      have f1 := (hbw.cell (p := ⟨bb, ob + k * 3 + 1, none⟩) (by show bb < _; omega)).trans e1
      have d2 := (hbw.cell (p := ⟨ba, oa + k * 3 + 2, none⟩) (by show ba < _; omega)).trans c2
      have f2 := (hbw.cell (p := ⟨bb, ob + k * 3 + 2, none⟩) (by show bb < _; omega)).trans e2
      clear c0 c1 c2 e0 e1 e2
      go_wp2_with fail
      go_region_held3 (fun w' => (w'.cell? ⟨ba, oa + k * 3, none⟩ = some (.string name) ∧ w'.cell? ⟨ba, oa + k * 3 + 1, none⟩ = some (.int .i64 ty) ∧ w'.cell? ⟨ba, oa + k * 3 + 2, none⟩ = some (.int .i64 node)) ∧ (w'.cell? ⟨bb, ob + k * 3, none⟩ = some (.string name) ∧ w'.cell? ⟨bb, ob + k * 3 + 1, none⟩ = some (.int .i64 ty) ∧ w'.cell? ⟨bb, ob + k * 3 + 2, none⟩ = some (.int .i64 node))) (first | exact ⟨⟨d0, d1, d2⟩, ⟨f0, f1, f2⟩⟩ | exact ⟨⟨(hb1.cell (p := ⟨ba, oa + k * 3, none⟩) hba1).trans d0, (hb1.cell (p := ⟨ba, oa + k * 3 + 1, none⟩) hba1).trans d1, (hb1.cell (p := ⟨ba, oa + k * 3 + 2, none⟩) hba1).trans d2⟩, ⟨(hb1.cell (p := ⟨bb, ob + k * 3, none⟩) hbb1).trans f0, (hb1.cell (p := ⟨bb, ob + k * 3 + 1, none⟩) hbb1).trans f1, (hb1.cell (p := ⟨bb, ob + k * 3 + 2, none⟩) hbb1).trans f2⟩⟩) ((go_at_call 27; refine Calls.mono (cQ.out _ hbw.drew) ?_; rintro e w1 ⟨rfl, hb1⟩))
      all_goals
        go_wp2
        go_roundw
        case rel => exact ⟨k + 1, by omega, by go_num, hbw.drew.trans (hb1.mono hbw.size)⟩
        case measure => simp [intOf]; omega
    · go_wp2
      go_ret
      exact ⟨rfl, hbw⟩

set_option maxRecDepth 100000 in
set_option maxHeartbeats 6400000 in
theorem lawVarsOf (a0 a1 : Value) (p : Pg) (k : Int) (w : World) (hp : RowPg w w.heap.size a0 a1 p ∧ okPg p) :
    Calls Try.prog 3 #[.agg #[a0, a1], .int .i64 k] w fun e w' => e = .returned (.bool true) ∧ Below w.heap.size w w' := by
  have cZ : Hid (∀ W, Below w.heap.size w W → Calls Try.prog 5 #[.agg #[a0, a1], .int .i64 1048576] W fun e w' => (∃ r : Int, e = .returned (.int .i64 r) ∧ (r = -1 ∨ (0 ≤ r ∧ r + (szPg p : Int) = 1048576))) ∧ Below W.heap.size W w') := fun W hW =>
    szProgram_sum w.heap.size p a0 a1 1048576 W hW.size (hp.1.keep hW) hp.2 (by omega) (by omega)
  have HP : Hid (RowPg w w.heap.size a0 a1 p) := hp.1
  clear hp
  go_enter Try.func3, Try.ntmps3
  go_wp2_with fail
  go_at_call 5
  refine Calls.mono (cZ.out _ (by go_grown)) ?_
  rintro e w1 ⟨⟨r, rfl, hr⟩, hb⟩
  have B1 : Hid (Box w (.cells #[a0, a1] 25) w1) := (Box.first _ _).next hb
  clear cZ hb
  rcases hr with rfl | ⟨hr0, hr1⟩
  · go_wp2
    go_ret
    exact ⟨rfl, B1.out.below⟩
  have hrn : ¬ r < 0 := by omega
  have hl : szPg p ≤ 1048576 := by omega
  have HL : Hid (szPg p ≤ 1048576 ∧ szRow szNd p.nodes ≤ 1048576) := ⟨hl, Nat.le_trans (le_szPg_nodes p) hl⟩
  obtain ⟨N0, H0⟩ : ∃ K, Hid (p.nodes.length = K) := ⟨_, (rfl : p.nodes.length = p.nodes.length)⟩
  obtain ⟨N1, H1⟩ : ∃ K, Hid (p.fns.length = K) := ⟨_, (rfl : p.fns.length = p.fns.length)⟩
  have cT : Hid (∀ W, Below w.heap.size w W → Calls Try.prog 7 #[.agg #[a0, a1]] W fun e w' => ∃ g c g' c', e = .returned (.agg #[.slice (some ⟨g, 0, none⟩) N0 c, .slice (some ⟨g', 0, none⟩) N1 c']) ∧ OwnPg w' W.heap.size w'.heap.size (.slice (some ⟨g, 0, none⟩) N0 c) (.slice (some ⟨g', 0, none⟩) N1 c') p ∧ Below W.heap.size W w') := fun W hW => by
    rw [← H0.out, ← H1.out]
    exact toProgram_any w.heap.size p a0 a1 W hW.size (HP.out.keep hW) hl
  have HU : Hid (varsOf p k = varsOf p k ∧ (varsOf p k).length ≤ 2097152 ∧ ∀ x ∈ varsOf p k, szVr x ≤ 1048576) := ⟨rfl, varsOf_len hl k, fun x hx => varsOf_sz hl hx⟩
  obtain ⟨xs, hxs⟩ : ∃ xs, Hid (varsOf p k = xs) := ⟨_, (rfl : varsOf p k = varsOf p k)⟩
  rw [hxs.out] at HU
  obtain ⟨X, HX⟩ : ∃ n, Hid (xs.length = n) := ⟨_, (rfl : xs.length = xs.length)⟩
  have hxl : X ≤ 2097152 := by rw [← HX.out]; exact HU.out.2.1
  have cS : Hid (∀ W v0 v1, RowPg W W.heap.size v0 v1 p → Calls Try.prog 6 #[.agg #[v0, v1], .int .i64 k] W fun e w' => (∃ g cap, e = .returned (.slice (some ⟨g, 0, none⟩) X cap) ∧ OwnsV w' W.heap.size (.slice (some ⟨g, 0, none⟩) X cap) xs) ∧ Below W.heap.size W w') := fun W v0 v1 h => by
    have h1 := specVarsOf_any v0 v1 p k W h HL.out.1
    rw [hxs.out, HX.out] at h1
    refine h1.mono ?_
    rintro e w' ⟨⟨g, cap, he, ho, _⟩, hb⟩
    exact ⟨⟨g, cap, he, ho⟩, hb⟩
  have cI : Hid (∀ W v0 v1, RowPg W W.heap.size v0 v1 p → Calls Try.prog 8 #[.agg #[v0, v1], .int .i64 k] W fun e w' => (∃ a cap, e = .returned (.slice a X cap) ∧ OwnsV w' W.heap.size (.slice a X cap) xs) ∧ Below W.heap.size W w') := fun W v0 v1 h => by
    have h1 := implVarsOf_any v0 v1 p k W h HL.out.1
    rw [hxs.out, HX.out] at h1
    exact h1
  have cEq : Hid (∀ W u v, OwnsV W (0 : Nat) u xs → OwnsV W (0 : Nat) v xs → Calls Try.prog 9 #[u, v] W fun e w' => e = .returned (.bool true) ∧ Below W.heap.size W w') := fun W u v h1 h2 =>
    eqVarS_len W.heap.size u v xs W (Nat.le_refl _) h1.row h2.row (by rw [HX.out]; omega) HU.out.2.2
  clear hl hr0 hr1
  have x0 := B1.out.cell 0
  have x1 := B1.out.cell 1
  simp at x0 x1
  go_wp2_with fail
  go_at_call 7
  refine Calls.mono (cT.out _ B1.out.below) ?_
  rintro e w2 ⟨g, c, g', c', rfl, ho, hb⟩
  have B2 : Hid (Box w (.cells #[a0, a1] 25) w2) := B1.out.next hb
  clear hb B1 x0 x1
  go_wp2_with fail
  go_at_call 6
  refine Calls.mono (cS.out _ _ _ ho.row) ?_
  rintro e w3 ⟨⟨gs, cs, rfl, hos⟩, hb⟩
  have B3 : Hid (Box w (.cells #[a0, a1] 25) w3) := B2.out.next hb
  have A3 : Hid (OwnsV w3 w2.heap.size (.slice (some ⟨gs, 0, none⟩) X cs) xs) := hos
  have hgs : gs < w3.heap.size := (OwnsR.lt hos gs (by simp [fpOf, Value.ownBlock])).2
  clear hb B2 ho cS hos
  have x0 := B3.out.cell 0
  have x1 := B3.out.cell 1
  simp at x0 x1
  go_wp2_with fail
  go_at_call 7
  refine Calls.mono (cT.out _ B3.out.below) ?_
  rintro e w4 ⟨g2, c2, g2', c2', rfl, ho, hb⟩
  have B4 : Hid (Box w (.cells #[a0, a1] 25) w4) := B3.out.next hb
  have A4 : Hid (OwnsV w4 w2.heap.size (.slice (some ⟨gs, 0, none⟩) X cs) xs) := OwnsR.below A3.out hb
  have P4 : Hid (OwnPg w4 w3.heap.size w4.heap.size (.slice (some ⟨g2, 0, none⟩) N0 c2) (.slice (some ⟨g2', 0, none⟩) N1 c2') p) := ho
  have hz4 : w3.heap.size ≤ w4.heap.size := hb.size
  have hw3 : w.heap.size < w3.heap.size := B3.out.lt
  clear hb B3 x0 x1 ho A3
  go_wp2_with fail
  go_at_call 8
  refine Calls.mono (cI.out _ _ _ ((P4.out.row.keep ((Below.refl _ _).alloc (Nat.le_refl _) _)).up (by simp))) ?_
  rintro e w5 ⟨⟨ga, gc, rfl, hog⟩, hb⟩
  have B5 : Hid (Box w (.cells #[a0, a1] 25) w5) := (B4.out.alloc _).next hb
  have X5 : Hid (Box w4 (.cells #[.slice (some ⟨g2, 0, none⟩) N0 c2, .slice (some ⟨g2', 0, none⟩) N1 c2'] 32) w5) := (Box.first _ _).next hb
  have A5 : Hid (OwnsV w5 w2.heap.size (.slice (some ⟨gs, 0, none⟩) X cs) xs ∧ OwnsV w5 (w4.heap.size + 1) (.slice ga X gc) xs) := ⟨OwnsR.below (World.ownsRow.alloc A4.out _) hb, owns_base hog (by simp)⟩
  have P5 : Hid (OwnPg w5 w3.heap.size w4.heap.size (.slice (some ⟨g2, 0, none⟩) N0 c2) (.slice (some ⟨g2', 0, none⟩) N1 c2') p) := P4.out.same (fun b _ h2 => (hb.block b (by simp; omega)).trans (Below.heap_alloc _ _ _ h2))
  clear hb B4 A4 P4 hog
  go_wp2_with fail
  go_at_call 9
  refine Calls.mono (cEq.out w5 _ _ A5.out.2.any A5.out.1.any) ?_
  rintro e w6 ⟨rfl, hb⟩
  have B6 : Hid (Box w (.cells #[a0, a1] 25) w6) := B5.out.next hb
  have X6 : Hid (Box w4 (.cells #[.slice (some ⟨g2, 0, none⟩) N0 c2, .slice (some ⟨g2', 0, none⟩) N1 c2'] 32) w6) := X5.out.next hb
  have A6 : Hid (OwnsV w6 w2.heap.size (.slice (some ⟨gs, 0, none⟩) X cs) xs ∧ OwnsV w6 (w4.heap.size + 1) (.slice ga X gc) xs) := ⟨OwnsR.below A5.out.1 hb, OwnsR.below A5.out.2 hb⟩
  have P6 : Hid (OwnPg w6 w3.heap.size w4.heap.size (.slice (some ⟨g2, 0, none⟩) N0 c2) (.slice (some ⟨g2', 0, none⟩) N1 c2') p) := P5.out.same (fun b _ h2 => hb.block b (by have := X5.out.lt; omega))
  have hz6 : w4.heap.size < w6.heap.size := X6.out.lt
  clear hb B5 X5 A5 P5
  have y0 : w6.cell? ⟨w4.heap.size, 0, none⟩ = some (.slice (some ⟨g2, 0, none⟩) N0 c2) := X6.out.cell 0
  have y1 : w6.cell? ⟨w4.heap.size, 1, none⟩ = some (.slice (some ⟨g2', 0, none⟩) N1 c2') := X6.out.cell 1
  have x0 : w6.cell? ⟨w.heap.size, 0, none⟩ = some a0 := B6.out.cell 0
  have x1 : w6.cell? ⟨w.heap.size, 1, none⟩ = some a1 := B6.out.cell 1
  have hlt := B6.out.lt
  go_wp2_with fail
  go_region_held3 (fun w' => (w'.cell? ⟨w4.heap.size, 0, none⟩ = some (.slice (some ⟨g2, 0, none⟩) N0 c2) ∧ w'.cell? ⟨w4.heap.size, 1, none⟩ = some (.slice (some ⟨g2', 0, none⟩) N1 c2')) ∧ w'.cell? ⟨w.heap.size, 0, none⟩ = some a0 ∧ w'.cell? ⟨w.heap.size, 1, none⟩ = some a1) (first | exact ⟨⟨y0, y1⟩, x0, x1⟩ | exact ⟨⟨(hb7.cell (p := ⟨w4.heap.size, 0, none⟩) hz6).trans y0, (hb7.cell (p := ⟨w4.heap.size, 1, none⟩) hz6).trans y1⟩, (hb7.cell (p := ⟨w.heap.size, 0, none⟩) hlt).trans x0, (hb7.cell (p := ⟨w.heap.size, 1, none⟩) hlt).trans x1⟩ | exact ⟨⟨(hb8.cell (p := ⟨w4.heap.size, 0, none⟩) (Nat.lt_of_lt_of_le hz6 hb7.size)).trans ((hb7.cell (p := ⟨w4.heap.size, 0, none⟩) hz6).trans y0), (hb8.cell (p := ⟨w4.heap.size, 1, none⟩) (Nat.lt_of_lt_of_le hz6 hb7.size)).trans ((hb7.cell (p := ⟨w4.heap.size, 1, none⟩) hz6).trans y1)⟩, (hb8.cell (p := ⟨w.heap.size, 0, none⟩) (Nat.lt_of_lt_of_le hlt hb7.size)).trans ((hb7.cell (p := ⟨w.heap.size, 0, none⟩) hlt).trans x0), (hb8.cell (p := ⟨w.heap.size, 1, none⟩) (Nat.lt_of_lt_of_le hlt hb7.size)).trans ((hb7.cell (p := ⟨w.heap.size, 1, none⟩) hlt).trans x1)⟩) (first | (go_at_call 7; refine Calls.mono (cT.out _ B6.out.below.drew) ?_; rintro e w7 ⟨g3, c3, g3', c3', rfl, ho7, hb7⟩) | (go_at_call 10; refine Calls.mono (eqProgram_same w7.heap.size p _ _ _ _ w7 (Nat.le_refl _) ((P6.out.row.keep ((Below.refl _ _).drew.trans (hb7.mono (Nat.le_of_lt hz6)))).up (Nat.le_trans (Nat.le_of_lt hz6) hb7.size)) ho7.row HL.out.1) ?_; rintro e w8 ⟨rfl, hb8⟩))
  have HB8 : Hid (Below w6.heap.size w6 w8) := (Below.refl _ _).drew.trans (hb7.trans (hb8.mono hb7.size))
  clear hb7 hb8 ho7 y0 y1 x0 x1
  have B8 : Hid (Box w (.cells #[a0, a1] 25) w8) := B6.out.next HB8.out
  have X8 : Hid (Box w4 (.cells #[.slice (some ⟨g2, 0, none⟩) N0 c2, .slice (some ⟨g2', 0, none⟩) N1 c2'] 32) w8) := X6.out.next HB8.out
  have A8 : Hid (OwnsV w8 w2.heap.size (.slice (some ⟨gs, 0, none⟩) X cs) xs ∧ OwnsV w8 (w4.heap.size + 1) (.slice ga X gc) xs) := ⟨OwnsR.below A6.out.1 HB8.out, OwnsR.below A6.out.2 HB8.out⟩
  have P8 : Hid (OwnPg w8 w3.heap.size w4.heap.size (.slice (some ⟨g2, 0, none⟩) N0 c2) (.slice (some ⟨g2', 0, none⟩) N1 c2') p) := P6.out.same (fun b _ h2 => HB8.out.block b (by omega))
  have hz8 := X8.out.lt
  clear B6 X6 A6 P6 HB8
  have y0 := X8.out.cell 0
  have y1 := X8.out.cell 1
  simp at y0 y1
  go_wp2_with fail
  go_at_call 11
  refine Calls.mono (markProgram_any w3.heap.size w4.heap.size _ _ p w8 P8.out (by omega) HL.out.1) ?_
  rintro e w9 ⟨⟨km, rfl, _, _⟩, hrim⟩
  have B9 : Hid (Box w (.cells #[a0, a1] 25) w9) := ⟨B8.out.b.trans ((hrim.below (by omega)).mono (by omega))⟩
  have A9 : Hid (OwnsV w9 w2.heap.size (.slice (some ⟨gs, 0, none⟩) X cs) xs ∧ OwnsV w9 (w4.heap.size + 1) (.slice ga X gc) xs) :=
    ⟨OwnsV.rim A8.out.1 hrim (fun b hb => by have : b = gs := by simpa [fpOf, Value.ownBlock] using hb
                                             omega), OwnsV.rim A8.out.2 hrim (fun b hb => by have := (OwnsR.lt A8.out.2 b hb).1; omega)⟩
  clear hrim B8 X8 A8 P8 y0 y1
  have hkn : ¬ (km : Int) < 0 := by omega
  go_wp2_with fail
  go_at_call 9
  refine Calls.mono (cEq.out w9 _ _ A9.out.2.any A9.out.1.any) ?_
  rintro e w10 ⟨rfl, hb⟩
  have B10 : Hid (Box w (.cells #[a0, a1] 25) w10) := B9.out.next hb
  have A10 : Hid (OwnsV w10 w2.heap.size (.slice (some ⟨gs, 0, none⟩) X cs) xs ∧ OwnsV w10 (w4.heap.size + 1) (.slice ga X gc) xs) := ⟨OwnsR.below A9.out.1 hb, OwnsR.below A9.out.2 hb⟩
  clear hb B9 A9
  go_wp2_with fail
  go_at_call 12
  refine Calls.mono (markVarS_any (w4.heap.size + 1) (.slice ga X gc) 1 xs w10 (by rw [markN_Vr, HX.out]; omega) (by omega) A10.out.2.phys (by rw [all_flatVr, fps_one]; exact fpOf_nodup _)) ?_
  rintro e w11 ⟨rfl, hom, hk⟩
  rw [all_flatVr] at hk
  have hvg : ∀ b ∈ fpOf (.slice ga X gc), w4.heap.size + 1 ≤ b := fun b hb => (OwnsR.lt A10.out.2 b hb).1
  have B11 : Hid (Box w (.cells #[a0, a1] 25) w11) := ⟨B10.out.b.trans (hk.below (by have := B10.out.lt; omega) (fun b hb => by rw [fps_one] at hb; have := hvg b hb; omega))⟩
  have A11 : Hid (OwnsV w11 w2.heap.size (.slice (some ⟨gs, 0, none⟩) X cs) xs ∧ OwnsV w11 (w4.heap.size + 1) (.slice ga X gc) (markL mkVr lnVr 1 xs)) :=
    ⟨OwnsV.keptBy A10.out.1 hk (fun b hb hm => by have : b = gs := by simpa [fpOf, Value.ownBlock] using hb
                                                  have := hvg b hm
                                                  omega), hom.1⟩
  obtain ⟨Y, hY⟩ : ∃ y : Nat, Hid (1 + markN lnVr xs = y) := ⟨_, (rfl : 1 + markN lnVr xs = 1 + markN lnVr xs)⟩
  rw [hY.out]
  have hYb : Y ≤ 1000000000 := by have := hY.out; rw [markN_Vr, HX.out] at this; omega
  clear hk hom B10 A10 hvg
  have cH : Hid (∀ W, OwnsV W (w4.heap.size + 1) (.slice ga X gc) (markL mkVr lnVr 1 xs) → Calls Try.prog 13 #[(.slice ga X gc), .int .i64 ((1 : Nat) : Int)] W fun e' w' => e' = .returned (.int .i64 (Y : Int)) ∧ Below W.heap.size W w') := fun W h => by
    have := heldVarS_any W.heap.size (.slice ga X gc) 1 xs W (Nat.le_refl _) (by rw [markN_Vr, HX.out]; omega) (by omega) h.row
    rw [hY.out] at this
    exact this
  go_wp2_with fail
  go_at_call 13
  refine Calls.mono (cH.out _ A11.out.2) ?_
  rintro e w12 ⟨rfl, hb⟩
  have B12 : Hid (Box w (.cells #[a0, a1] 25) w12) := B11.out.next hb
  have A12 : Hid (OwnsV w12 w2.heap.size (.slice (some ⟨gs, 0, none⟩) X cs) xs ∧ OwnsV w12 (w4.heap.size + 1) (.slice ga X gc) (markL mkVr lnVr 1 xs)) := ⟨OwnsR.below A11.out.1 hb, OwnsR.below A11.out.2 hb⟩
  clear hb B11 A11
  have hYn : ¬ (Y : Int) < 0 := by omega
  have x0 := B12.out.cell 0
  have x1 := B12.out.cell 1
  simp at x0 x1
  go_wp2_with fail
  go_at_call 7
  refine Calls.mono (cT.out _ B12.out.below) ?_
  rintro e w13 ⟨g5, c5, g5', c5', rfl, ho, hb⟩
  have B13 : Hid (Box w (.cells #[a0, a1] 25) w13) := B12.out.next hb
  have A13 : Hid (OwnsV w13 w2.heap.size (.slice (some ⟨gs, 0, none⟩) X cs) xs ∧ OwnsV w13 (w4.heap.size + 1) (.slice ga X gc) (markL mkVr lnVr 1 xs)) := ⟨OwnsR.below A12.out.1 hb, OwnsR.below A12.out.2 hb⟩
  clear hb B12 A12 x0 x1 cT
  go_wp2_with fail
  go_at_call 8
  refine Calls.mono (cI.out _ _ _ ho.row) ?_
  rintro e w14 ⟨⟨ha, hc, rfl, hoh⟩, hb⟩
  have B14 : Hid (Box w (.cells #[a0, a1] 25) w14) := B13.out.next hb
  have A14 : Hid (OwnsV w14 w2.heap.size (.slice (some ⟨gs, 0, none⟩) X cs) xs ∧ OwnsV w14 (w4.heap.size + 1) (.slice ga X gc) (markL mkVr lnVr 1 xs) ∧ OwnsV w14 w13.heap.size (.slice ha X hc) xs) := ⟨OwnsR.below A13.out.1 hb, OwnsR.below A13.out.2 hb, hoh⟩
  clear hb B13 A13 ho hoh cI
  go_wp2_with fail
  go_at_call 9
  refine Calls.mono (cEq.out w14 _ _ A14.out.2.2.any A14.out.1.any) ?_
  rintro e w15 ⟨rfl, hb⟩
  have B15 : Hid (Box w (.cells #[a0, a1] 25) w15) := B14.out.next hb
  have A15 : Hid (OwnsV w15 (w4.heap.size + 1) (.slice ga X gc) (markL mkVr lnVr 1 xs)) := OwnsR.below A14.out.2.1 hb
  clear hb B14 A14
  go_wp2_with fail
  go_at_call 13
  refine Calls.mono (cH.out _ A15.out) ?_
  rintro e w16 ⟨rfl, hb⟩
  have B16 : Hid (Box w (.cells #[a0, a1] 25) w16) := B15.out.next hb
  clear hb B15 A15
  go_wp2
  go_ret
  exact ⟨rfl, B16.out.below⟩

end Go.Proofs.Ytljphnjmeckpbaa

namespace Go.Proofs.Ytljphnjmeckpbaa
open Go.RowKit

theorem Try.structPg : ∃ f0 f1 : Field, Try.prog.underlying 25 = some (.struct #[f0, f1]) ∧ f0.offset = 0 ∧ f1.offset = 1 ∧ f0.type = 22 ∧ f1.type = 23 := ⟨_, _, Try.underlying25, rfl, rfl, rfl, rfl⟩
theorem Try.cellsPg : Try.prog.cellsOf 25 = 2 := by kernel_rfl
theorem open_pg {H : Type} {enc : TypeId × Value → H} {W : World} {fuel : Nat} {cs : Array Value} {x : DataW H × List MemPlace}
    (h : DataW.trod enc Try.prog W 0 (fun _ => true) true fuel 25 (Value.agg cs).cells.toList = some x) :
    ∃ v0 v1 p, cs = #[v0, v1] ∧ RowPg W W.heap.size v0 v1 p ∧ okPg p := by
  obtain ⟨f0, f1, hst, o0, o1, t0, t1⟩ := Try.structPg
  obtain ⟨xs, k, _, _, hlen, hxl, hf⟩ := DataW.trod_struct hst h
  rw [Try.cellsPg] at hlen
  have hxl' : xs.length = 2 := hxl
  obtain ⟨y0, y1, rfl⟩ := len_pm hxl'
  obtain ⟨v0, v1, hv⟩ := len_pm hlen
  have hcs : cs = #[v0, v1] := by
    have : cs.toList = [v0, v1] := hv
    rw [← this]
  subst hcs
  have g0 := hf 0 f0 rfl
  rw [o0, t0, Try.cellsNds, hv] at g0
  have g1 := hf 1 f1 rfl
  rw [o1, t1, Try.cellsFcs, hv] at g1
  simp at g0 g1
  obtain ⟨z0, r0, k0⟩ := open_nds g0
  obtain ⟨z1, r1, k1⟩ := open_fcs g1
  exact ⟨v0, v1, ⟨z0, z1⟩, rfl, ⟨r0, r1⟩, k0, k1⟩

end Go.Proofs.Ytljphnjmeckpbaa
