/-
  Whose names, in the program: the names in sight stand in a map; one is asked for, one begun; whether a call may be.
  Whose names, in the program: whether a call may be.
  Whose names, in the program: what was let in a block goes out of sight.
  Whose names, in the program: through a function's nodes. Made by mksightd.py.
-/
import Derived.Test.YtjafneaaefpefaaGreatRa
import Derived.Test.YtjafneaaefpefaaGreatPb
import Derived.Maps.OwnSet
import Derived.Maps.OwnOps
import Derived.Maps.Views
import Derived.Test.YtjafneaaefpefaaGreatVb
import Derived.Test.YtjafneaaefpefaaGreatSc
namespace Go.Proofs.YtjafneaaefpefaaGreat
open Go.RowKit Go.Maps Go.WideMaps

theorem Tryz.keyLaw : Keyed Tryz.prog 9 := string_keyed Tryz.underlying9
theorem Tryz.zeroUnit (w : World) : (zeroValue 114).run Tryz.prog w = .ok (.agg #[]) w := by kernel_rfl
theorem key_mk (s : ByteArray) (h : s.size ≤ 1000000) : keyOf Tryz.prog 9 (.string s) = some (.string s.data.toList) := keyOf_string_mk Tryz.underlying9 (by unfold maxLen; omega)

theorem ext_data {a b : ByteArray} (h : a.data.toList = b.data.toList) : a = b := by
  cases a; cases b
  simp only [ByteArray.mk.injEq]
  exact Array.toList_inj.1 h
theorem sameB_iff {a b : ByteArray} : sameB a b = true ↔ a = b := by
  unfold sameB
  rw [beq_iff_eq, ByteArray.toList_eq, ByteArray.toList_eq]
  exact ⟨ext_data, fun h => by rw [h]⟩
theorem sameB_off {a b : ByteArray} (h : a ≠ b) : sameB a b = false := by
  cases hs : sameB a b
  · rfl
  · exact absurd (sameB_iff.mp hs) h

/-- What goes through a function: its block, and the names in sight in a map of their own. -/
structure Sight (w : World) (sb mr : Nat) (v0 v1 : Value) (fn : Int) (S : List ByteArray) (n : Nat) : Prop where
  at_ : w.heap[sb]? = some (.cells #[v0, v1, .int .i64 fn, .map (some mr)] 91 (0, 0))
  ne : sb ≠ mr
  set : ∃ D : DataW Unit, w.ownsMap Tryz.prog 9 (unitElem (H := Unit)) mr n D ∧ ∀ nm : ByteArray, Maps.has D (.string nm.data.toList) = scHas S nm
theorem Sight.lt {w : World} {sb mr : Nat} {v0 v1 : Value} {fn : Int} {S : List ByteArray} {n : Nat} (h : Sight w sb mr v0 v1 fn S n) : sb < w.heap.size := by
  rcases Nat.lt_or_ge sb w.heap.size with h' | h'
  · exact h'
  · have := h.at_
    simp [Array.getElem?_eq_none h'] at this
theorem Sight.below {w w' : World} {sb mr : Nat} {v0 v1 : Value} {fn : Int} {S : List ByteArray} {n : Nat} (h : Sight w sb mr v0 v1 fn S n) (hb : Below w.heap.size w w') : Sight w' sb mr v0 v1 fn S n := by
  obtain ⟨D, hD, hS⟩ := h.set
  exact ⟨(hb.block _ h.lt).trans h.at_, h.ne, D, hD.kept (grown_of_below hb) (by simp), hS⟩

set_option maxRecDepth 100000 in
set_option maxHeartbeats 1600000 in
theorem sightHas_any (sb mr : Nat) (v0 v1 : Value) (fn : Int) (S : List ByteArray) (n : Nat) (nm : ByteArray) (hnm : nm.size ≤ 1000000) (w : World) (h : Sight w sb mr v0 v1 fn S n) :
    Calls Tryz.prog 90 #[.pointer (some ⟨sb, 0, none⟩), .string nm] w fun e w' => e = .returned (.bool (scHas S nm)) ∧ Below w.heap.size w w' := by
  have x3 := cell_at h.at_ 3
  simp at x3
  obtain ⟨D, hD, hS⟩ := h.set
  have hown : Hid (w.ownsMap Tryz.prog 9 (unitElem (H := Unit)) mr n D) := hD
  have HS : Hid (Maps.has D (.string nm.data.toList) = scHas S nm) := hS nm
  clear h hD hS
  go_enter Tryz.func90, Tryz.ntmps90
  go_wp2_with (at_lookup; refine wpList_lookup_own_unit _ rfl _ _ 89 rfl 9 114 Tryz.keyLaw Tryz.underlying89 (Tryz.zeroUnit _) mr n D rfl hown.out _ _ rfl (key_mk nm hnm) ?_)
  go_ret
  exact ⟨by rw [← HS.out]; rfl, by go_grown⟩

set_option maxRecDepth 100000 in
set_option maxHeartbeats 1600000 in
theorem sightBegin_any (sb mr : Nat) (v0 v1 : Value) (fn : Int) (S : List ByteArray) (n : Nat) (nm : ByteArray) (hnm : nm.size ≤ 1000000) (hn : n ≤ 1000000000000000) (w : World) (h : Sight w sb mr v0 v1 fn S n) :
    Calls Tryz.prog 61 #[.pointer (some ⟨sb, 0, none⟩), .string nm] w fun e w' => e = .returned (.tuple #[]) ∧ Sight w' sb mr v0 v1 fn (S ++ [nm]) (n + 1) ∧ w.grownBy w' (some mr) := by
  have x3 := cell_at h.at_ 3
  simp at x3
  obtain ⟨D, hD, hS⟩ := h.set
  have hown : Hid (w.ownsMap Tryz.prog 9 (unitElem (H := Unit)) mr n D) := hD
  have HS : Hid (Sight w sb mr v0 v1 fn S n ∧ ∀ nm : ByteArray, Maps.has D (.string nm.data.toList) = scHas S nm) := ⟨h, hS⟩
  clear h hD hS
  go_enter Tryz.func61, Tryz.ntmps61
  go_wp2_with (at_mapUpdate; refine wpList_mapUpdate_own _ rfl _ _ _ 89 rfl 9 114 Tryz.keyLaw Tryz.underlying89 _ mr n D rfl hown.out (by unfold maxLen; omega) _ _ _ rfl rfl (key_mk nm hnm) _ [] (unitElem_mk (H := Unit)) ?_; intro w1 hown1 hgrow1)
  have HF : Hid (Sight w1 sb mr v0 v1 fn (S ++ [nm]) (n + 1) ∧ w.grownBy w1 (some mr)) := by
    refine ⟨⟨(hgrow1.block _ HS.out.1.lt (fun e => HS.out.1.ne (by simpa using e))).trans HS.out.1.at_, HS.out.1.ne, _, hown1, fun q => ?_⟩, hgrow1⟩
    unfold scHas
    rw [List.any_append]
    by_cases e : q = nm
    · subst e
      rw [has_put_same (k := .string q.data.toList) hown.out.isMap trivial]
      simp [sameB_iff.mpr rfl]
    · rw [has_put_other (fun h => e (by injection h with h; exact ext_data h)), HS.out.2 q]
      have := sameB_off (fun h => e h.symm)
      simp [scHas, this]
  clear hown1 hgrow1 hown HS
  go_wp2
  go_end0
  exact ⟨rfl, HF.out⟩

end Go.Proofs.YtjafneaaefpefaaGreat

namespace Go.Proofs.YtjafneaaefpefaaGreat
open Go.RowKit Go.Maps Go.WideMaps

set_option maxRecDepth 100000 in
set_option maxHeartbeats 3200000 in
theorem mayCall_any (p : Pg) (B : Nat) (v0 : Value) (fa : Option Addr) (F fcap sb mr : Nat) (fn : Int) (S : List ByteArray) (n : Nat) (hp : programOk p = true) (HFn : Hid (p.fns.length = F)) (_hfn : 0 ≤ fn ∧ fn < (F : Int)) (kd mx : Int) (nx : ByteArray) (ka : Option Addr) (t kc : Nat) (ht : t ≤ 1000000) (w : World) (hB : B ≤ w.heap.size)
    (hR : FcR.Row w B (.slice fa F fcap) p.fns) (h : Sight w sb mr v0 (.slice fa F fcap) fn S n) :
    Calls Tryz.prog 91 #[.pointer (some ⟨sb, 0, none⟩), .agg #[.int .i64 kd, .int .i64 mx, .string nx, .slice ka t kc]] w fun e w' => e = .returned (.bool (scCall p fn nx t)) ∧ Below w.heap.size w w' := by
  have hFl : p.fns.length ≤ 1048576 := by
    have := prog_fns hp
    omega
  have hF8 : F ≤ 8 := by have := prog_fns hp; have := HFn.out; omega
  obtain ⟨fi, hfi⟩ : ∃ i, Hid (fnAt p.fns nx = i) := ⟨_, (rfl : fnAt p.fns nx = fnAt p.fns nx)⟩
  have hfb : -1 ≤ fi ∧ fi < (F : Int) := by
    have := fnAt_bound p.fns nx
    rw [hfi.out, HFn.out] at this
    exact this
  have HS : Hid (Sight w sb mr v0 (.slice fa F fcap) fn S n ∧ FcR.Row w B (.slice fa F fcap) p.fns) := ⟨h, hR⟩
  have hsl := h.lt
  have cF : Hid (∀ W, Below w.heap.size w W → Calls Tryz.prog 84 #[.agg #[v0, .slice fa F fcap], .string nx] W fun e w' => e = .returned (.int .i64 fi) ∧ Below W.heap.size W w') := fun W hW => by
    rw [← hfi.out]
    exact implFnAt_any B _ _ p.fns nx W (Nat.le_trans hB hW.size) (HS.out.2.keep (hW.mono hB)) hFl
  obtain ⟨w0, hw0⟩ : ∃ w0, Hid (w.alloc (.cells #[.int .i64 kd, .int .i64 mx, .string nx, .slice ka t kc] 67) = w0) := ⟨_, (rfl : w.alloc _ = _)⟩
  have hbx : Box w (.cells #[.int .i64 kd, .int .i64 mx, .string nx, .slice ka t kc] 67) w0 := by rw [← hw0.out]; exact Box.first _ _
  have x0 := cell_at ((hbx.below.block sb hsl).trans h.at_) 0
  have x1 := cell_at ((hbx.below.block sb hsl).trans h.at_) 1
  have y2 := hbx.cell 2
  simp at x0 x1 y2
  have HB0 : Hid (Box w (.cells #[.int .i64 kd, .int .i64 mx, .string nx, .slice ka t kc] 67) w0) := hbx
  have hs0 : sb < w0.heap.size := by have := hbx.lt; omega
  have hw1 := hbx.lt
  clear h hR hbx
  go_enter Tryz.func91, Tryz.ntmps91
  go_wp2_with fail
  rw [hw0.out]
  go_region_held3 (fun w' => (w'.cell? ⟨sb, 0, none⟩ = some v0 ∧ w'.cell? ⟨sb, 1, none⟩ = some (.slice fa F fcap)) ∧ w'.cell? ⟨w.heap.size, 2, none⟩ = some (.string nx)) (first | exact ⟨⟨x0, x1⟩, y2⟩ | exact ⟨⟨(hb2.cell (p := ⟨sb, 0, none⟩) hs0).trans x0, (hb2.cell (p := ⟨sb, 1, none⟩) hs0).trans x1⟩, (hb2.cell (p := ⟨w.heap.size, 2, none⟩) hw1).trans y2⟩ | go_keep) ((go_at_call 84; refine Calls.mono (cF.out _ HB0.out.below.drew) ?_; rintro e w2 ⟨rfl, hb2⟩))
  have HS2 : Hid (Sight w2 sb mr v0 (.slice fa F fcap) fn S n ∧ Box w (.cells #[.int .i64 kd, .int .i64 mx, .string nx, .slice ka t kc] 67) w2) := by
    have h2 : Box w (.cells #[.int .i64 kd, .int .i64 mx, .string nx, .slice ka t kc] 67) w2 := HB0.out.drew.next hb2
    exact ⟨HS.out.1.below h2.below, h2⟩
  clear x0 x1 y2 hb2 HB0 hs0 hw1 cF
  have x1 := cell_at HS2.out.1.at_ 1
  have x2 := cell_at HS2.out.1.at_ 2
  have y3 := HS2.out.2.cell 3
  simp at x1 x2 y3
  by_cases hi0 : fi < 0
  · have HX : Hid (scCall p fn nx t = false ∧ Below w.heap.size w w2) := by
      refine ⟨?_, HS2.out.2.below⟩
      unfold scCall
      rw [hfi.out]
      have : decide (0 ≤ fi) = false := by simp; omega
      rw [this]
      rfl
    have d1 : decide (0 ≤ fi) = false := by simp; omega
    clear HS2 hw0 HS
    go_wp2_with fail
    go_quiet (fail)
    go_wp2
    go_ret
    exact ⟨by rw [HX.out.1]; rfl, HX.out.2.trans (below_grown (grown_drewN w2 _) |>.mono HX.out.2.size)⟩
  by_cases hi1 : fn ≤ fi
  · have HX : Hid (scCall p fn nx t = false ∧ Below w.heap.size w w2) := by
      refine ⟨?_, HS2.out.2.below⟩
      unfold scCall
      rw [hfi.out]
      have : decide (fi < fn) = false := by simp; omega
      rw [this]
      simp
    have d1 : decide (0 ≤ fi) = true := by simp; omega
    have d2 : decide (fi < fn) = false := by simp; omega
    clear HS2 hw0 HS
    go_wp2_with fail
    go_quiet (fail)
    go_wp2
    go_ret
    exact ⟨by rw [HX.out.1]; rfl, HX.out.2.trans (below_grown (grown_drewN w2 _) |>.mono HX.out.2.size)⟩
  · have d1 : decide (0 ≤ fi) = true := by simp; omega
    have d2 : decide (fi < fn) = true := by simp; omega
    obtain ⟨fj, rfl⟩ : ∃ j : Nat, fi = (j : Int) := ⟨fi.toNat, by omega⟩
    have hfj0 : (0 : Int) ≤ (fj : Int) := by omega
    have hfj1 : (fj : Int) < (F : Int) := by omega
    have hfjl : fj < p.fns.length := by have := HFn.out; omega
    obtain ⟨fb', fo', pv, rfl, hfbb, g0, g1, g2, g3, g4, hPv⟩ := FcR.at HS.out.2 fj hfjl
    obtain ⟨pa, pc, rfl⟩ := hPv.len
    have g1' := (HS2.out.2.below.cell (p := ⟨fb', fo' + fj * 5 + 1, none⟩) (Nat.lt_of_lt_of_le hfbb hB)).trans g1
    obtain ⟨pl, hpl⟩ : ∃ n, Hid (p.fns[fj].params.length = n) := ⟨_, (rfl : p.fns[fj].params.length = _)⟩
    rw [hpl.out] at g1'
    have HX : Hid (scCall p fn nx t = decide (pl = t) ∧ Below w.heap.size w w2) := by
      refine ⟨?_, HS2.out.2.below⟩
      unfold scCall
      rw [hfi.out, Int.toNat_natCast]
      have h3 : decide (0 ≤ (fj : Int)) = true := by simp
      have h4 : decide ((fj : Int) < fn) = true := by simp; omega
      rw [h3, h4]
      simp [List.getD, hfjl, hpl.out]
    clear g0 g1 g2 g3 g4 hPv HS2 hw0 HS
    by_cases hpt : pl = t
    · subst hpt
      have HX2 : Hid (scCall p fn nx pl = true) := by show _ = _; rw [HX.out.1]; simp
      go_wp2_with fail
      go_quiet (fail)
      go_wp2
      go_ret
      exact ⟨by rw [HX2.out]; rfl, HX.out.2.trans (below_grown (grown_drewN w2 _) |>.mono HX.out.2.size)⟩
    · have HX2 : Hid (scCall p fn nx t = false) := by show _ = _; rw [HX.out.1]; simpa using hpt
      have hpt1 : ((pl : Int) == (t : Int)) = false := by simp; omega
      have hpt2 : ¬ (pl : Int) = (t : Int) := by omega
      go_wp2_with fail
      go_quiet (fail)
      go_wp2
      go_ret
      exact ⟨by rw [HX2.out]; rfl, HX.out.2.trans (below_grown (grown_drewN w2 _) |>.mono HX.out.2.size)⟩

end Go.Proofs.YtjafneaaefpefaaGreat

namespace Go.Proofs.YtjafneaaefpefaaGreat
open Go.RowKit Go.Maps Go.WideMaps

theorem step_del {H : Type} {P : Program} {w : World} {ops : Array Oper} {o : Oper} {a : Act} {K : Act → World → Prop} {Q : Exit → Act → World → Prop} {E : Prop}
    (hgd : o.guard = none) (m x : Operand) (t k : TypeId) (ho : o.op = .call { callee := .builtin .delete, args := #[m, x], argTypes := #[t, k] })
    (e : TypeId) (KK : Keyed P k) (ht : P.underlying t = some (.map k e)) (R : Value → Option (DataW H × List MemPlace)) (b n : Nat) (D : DataW H)
    (hm : a.eval m = .map (some b)) (hown : w.ownsMap P k R b n D) (key : Value) (kl : Lit) (hx : a.eval x = key) (hkey : keyOf P k key = some kl)
    (h : ∀ w', w'.ownsMap P k R b n (D.del kl) → w.mapTurned w' b → K (a.put o.dst (.tuple #[])) w') :
    if Region.wanted o (yielded ops a.tmps) = true then Oper.wp P o a w K Q else E := by
  have hw : Region.wanted o (yielded ops a.tmps) = true := by simp [Region.wanted, hgd]
  rw [if_pos hw]
  obtain ⟨w', hrun, r1, r2⟩ := hown.drop KK ht hkey o.type
  unfold Oper.wp
  simp [execOp, ho, resolve, invoke, builtin, hm, hx, hrun, Result.andThen]
  exact h _ r1 r2

theorem scHas_filter (S : List ByteArray) (f : ByteArray → Bool) (q : ByteArray) : scHas (S.filter f) q = (scHas S q && f q) := by
  unfold scHas
  rw [List.any_filter]
  induction S with
  | nil => rfl
  | cons s S ih =>
    simp only [List.any_cons]
    rw [ih]
    cases h : sameB s q
    · simp
    · have := sameB_iff.mp h
      subst this
      cases f s <;> simp
theorem outOf_snoc (p : Pg) (ks : List Int) (c : Int) (S : List ByteArray) : outOf p (ks ++ [c]) S = (outOf p ks S).filter fun s => !(decide ((p.nodes.getD c.toNat nd0).kind = 13) && sameB (p.nodes.getD c.toNat nd0).name s) := by
  unfold outOf letIn
  rw [List.filter_filter]
  congr 1
  funext s
  rw [List.any_append]
  simp only [List.any_cons, List.any_nil, Bool.or_false, Bool.not_or]
  rw [Bool.and_comm]
theorem Sight.del {w w' : World} {sb mr : Nat} {v0 v1 : Value} {fn : Int} {S : List ByteArray} {n : Nat} (h : Sight w sb mr v0 v1 fn S n) {D : DataW Unit} (hD : ∀ nm : ByteArray, Maps.has D (.string nm.data.toList) = scHas S nm) {nx : ByteArray}
    (ho : w'.ownsMap Tryz.prog 9 (unitElem (H := Unit)) mr n (D.del (.string nx.data.toList))) (hg : w.grownBy w' (some mr)) : Sight w' sb mr v0 v1 fn (S.filter fun s => !sameB nx s) n := by
  refine ⟨(hg.block _ h.lt (fun e => h.ne (by simpa using e))).trans h.at_, h.ne, _, ho, fun q => ?_⟩
  rw [scHas_filter]
  by_cases e : q = nx
  · subst e
    rw [has_del_same]
    simp [sameB_iff.mpr rfl]
  · rw [has_del_other (fun h => e (by injection h with h; exact ext_data h)), hD q]
    have := sameB_off (fun h => e h.symm)
    simp [this]

set_option maxRecDepth 100000 in
set_option maxHeartbeats 6400000 in
theorem end_any (p : Pg) (B : Nat) (na : Option Addr) (N nc sb mr : Nat) (v1 : Value) (fn : Int) (S : List ByteArray) (n : Nat) (HN : Hid (p.nodes.length = N)) (hsz : ∀ x ∈ p.nodes, x.name.size ≤ 1000000)
    (kd mx : Int) (nx : ByteArray) (ka : Option Addr) (K kc : Nat) (ks : List Int) (HK : Hid (ks.length = K)) (hks : ∀ c ∈ ks, 0 ≤ c ∧ c < (N : Int)) (hK : K ≤ 100000) (w : World) (hB : B ≤ w.heap.size) (hlo : B ≤ sb ∧ B ≤ mr)
    (hR : NdR.Row w B (.slice na N nc) p.nodes) (hRk : RowI w B (.slice ka K kc) ks) (h : Sight w sb mr (.slice na N nc) v1 fn S n) :
    Calls Tryz.prog 92 #[.pointer (some ⟨sb, 0, none⟩), .agg #[.int .i64 kd, .int .i64 mx, .string nx, .slice ka K kc]] w fun e w' => e = .returned (.tuple #[]) ∧ Sight w' sb mr (.slice na N nc) v1 fn (outOf p ks S) n ∧ w.grownBy w' (some mr) := by
  have hsl := h.lt
  have HR : Hid (NdR.Row w B (.slice na N nc) p.nodes ∧ RowI w B (.slice ka K kc) ks) := ⟨hR, hRk⟩
  have HKS : Hid (∀ c ∈ ks, 0 ≤ c ∧ c < (N : Int)) := hks
  obtain ⟨w0, hw0⟩ : ∃ w0, Hid (w.alloc (.cells #[.int .i64 kd, .int .i64 mx, .string nx, .slice ka K kc] 67) = w0) := ⟨_, (rfl : w.alloc _ = _)⟩
  have hbx : Box w (.cells #[.int .i64 kd, .int .i64 mx, .string nx, .slice ka K kc] 67) w0 := by rw [← hw0.out]; exact Box.first _ _
  have y3 := hbx.cell 3
  simp at y3
  have HS0 : Hid (Sight w0 sb mr (.slice na N nc) v1 fn (outOf p (ks.take 0) S) n ∧ w.grownBy w0 (some mr)) := by
    have h1 : outOf p (ks.take 0) S = S := by unfold outOf letIn; rw [List.filter_eq_self]; intro _ _; simp
    rw [h1]
    exact ⟨h.below hbx.below, World.grownBy.but (grown_of_below hbx.below) _⟩
  clear h hR hRk hbx hks
  go_enter Tryz.func92, Tryz.ntmps92
  go_wp2_with fail
  rw [hw0.out]
  go_wp2_with fail
  go_loopw [10] (fun i wr => ∃ t : Nat, t ≤ K ∧ i = .int .i64 (t : Int) ∧ Hid (Sight wr sb mr (.slice na N nc) v1 fn (outOf p (ks.take t) S) n ∧ w.grownBy wr (some mr))) (fun i _ => K - (intOf i).toNat)
  case atStart => exact ⟨0, Nat.zero_le _, rfl, HS0.out⟩
  case round =>
    obtain ⟨t, ht, rfl, HS⟩ := hrel
    clear HS0 y3 hw0
    by_cases hlt : t < K
    · have hT0 : (0 : Int) ≤ (t : Int) := by omega
      have hT1 : (t : Int) < (K : Int) := by omega
      have htl : t < ks.length := by have := HK.out; omega
      have hBr : Below B w wr := below_of_grown HS.out.2 hlo.2 hB
      obtain ⟨kb, ko, rfl, hkb, e0⟩ := HR.out.2.at t htl
      have f0 := (hBr.cell (p := ⟨kb, ko + t, none⟩) hkb).trans e0
      have hcc := HKS.out ks[t] (List.getElem_mem htl)
      obtain ⟨j, hj⟩ : ∃ j : Nat, Hid (ks[t] = (j : Int)) := ⟨ks[t].toNat, (by show _ = _; omega)⟩
      rw [hj.out] at f0 hcc
      have hjN : j < N := by have := HN.out; omega
      have hjl : j < p.nodes.length := by have := HN.out; omega
      have hj0 : (0 : Int) ≤ (j : Int) := by omega
      have hj1 : (j : Int) < (N : Int) := by omega
      have hsn := hsz p.nodes[j] (List.getElem_mem hjl)
      obtain ⟨nb, no, ja, jc, rfl, hnb, n0, n1, n2, n3, _⟩ := RowNd.at HR.out.1 j hjl
      have hgd : p.nodes.getD j nd0 = p.nodes[j] := by simp [List.getD, hjl]
      have HO : Hid (outOf p (ks.take (t + 1)) S = (outOf p (ks.take t) S).filter fun s => !(decide (p.nodes[j].kind = 13) && sameB p.nodes[j].name s)) := by
        show _ = _
        rw [List.take_succ_eq_append_getElem htl, outOf_snoc, hj.out, Int.toNat_natCast, hgd]
      obtain ⟨xn, hxn⟩ : ∃ nx, Hid (p.nodes[j].name = nx) := ⟨_, (rfl : p.nodes[j].name = p.nodes[j].name)⟩
      obtain ⟨xk, hxk⟩ : ∃ kx, Hid (p.nodes[j].kind = kx) := ⟨_, (rfl : p.nodes[j].kind = p.nodes[j].kind)⟩
      obtain ⟨xm, hxm⟩ : ∃ mx, Hid (p.nodes[j].num = mx) := ⟨_, (rfl : p.nodes[j].num = p.nodes[j].num)⟩
      obtain ⟨jn, hjn⟩ : ∃ kn, Hid (p.nodes[j].kids.length = kn) := ⟨_, (rfl : p.nodes[j].kids.length = p.nodes[j].kids.length)⟩
      rw [hxk.out] at n0 HO
      rw [hxm.out] at n1
      rw [hxn.out] at n2 HO hsn
      rw [hjn.out] at n3
      have d0 := (hBr.cell (p := ⟨nb, no + j * 4, none⟩) hnb).trans n0
      have d1 := (hBr.cell (p := ⟨nb, no + j * 4 + 1, none⟩) hnb).trans n1
      have d2 := (hBr.cell (p := ⟨nb, no + j * 4 + 2, none⟩) hnb).trans n2
      have d3 := (hBr.cell (p := ⟨nb, no + j * 4 + 3, none⟩) hnb).trans n3
      have x0 := cell_at HS.out.1.at_ 0
      simp at x0
      have hsr := HS.out.1.lt
      obtain ⟨wn, hwn⟩ : ∃ wn, Hid (wr.alloc (.cells #[.int .i64 xk, .int .i64 xm, .string xn, .slice ja jn jc] 67) = wn) := ⟨_, (rfl : wr.alloc _ = _)⟩
      have hbx : Box wr (.cells #[.int .i64 xk, .int .i64 xm, .string xn, .slice ja jn jc] 67) wn := by rw [← hwn.out]; exact Box.first _ _
      have HS1 : Hid (Sight wn sb mr (.slice (some ⟨nb, no, none⟩) N nc) v1 fn (outOf p (ks.take t) S) n ∧ w.grownBy wn (some mr)) := ⟨HS.out.1.below hbx.below, grown_trans HS.out.2 (grown_of_below hbx.below) (.inr rfl) (.inl rfl)⟩
      have z0 := hbx.cell 0
      have z2 := hbx.cell 2
      simp at z0 z2
      clear e0 n0 n1 n2 n3 hgd hcc HS hbx hBr
      by_cases hk : xk = 13
      · subst hk
        have hO2 : ((outOf p (ks.take t) S).filter fun s => !(decide ((13 : Int) = 13) && sameB xn s)) = (outOf p (ks.take t) S).filter fun s => !sameB xn s := by
          congr 1
        rw [hO2] at HO
        obtain ⟨D, hD, hDS⟩ := HS1.out.1.set
        have HD : Hid (wn.ownsMap Tryz.prog 9 (unitElem (H := Unit)) mr n D ∧ ∀ nm : ByteArray, Maps.has D (.string nm.data.toList) = scHas (outOf p (ks.take t) S) nm) := ⟨hD, hDS⟩
        have x2 := cell_at HS1.out.1.at_ 3
        simp at x2
        clear hD hDS
        go_wp2_with fail
        rw [hwn.out]
        go_wp2_with fail
        go_region_law (refine step_del rfl _ _ 89 9 rfl 114 Tryz.keyLaw Tryz.underlying89 _ mr n D rfl HD.out.1.drew _ _ rfl (key_mk xn hsn) ?_; intro w5 hown5 hturn5)
        all_goals
          have HS2 : Hid (Sight w5 sb mr (.slice (some ⟨nb, no, none⟩) N nc) v1 fn (outOf p (ks.take (t + 1)) S) n ∧ w.grownBy w5 (some mr)) := by
            rw [HO.out]
            have h1 : Sight wn.drew sb mr (.slice (some ⟨nb, no, none⟩) N nc) v1 fn (outOf p (ks.take t) S) n := HS1.out.1.below (Below.refl _ _).drew
            exact ⟨h1.del HD.out.2 hown5 hturn5.grown, grown_trans (grown_trans HS1.out.2 (grown_drewN wn 1) (.inr rfl) (.inl rfl)) hturn5.grown (.inr rfl) (.inr rfl)⟩
          clear HS1 HD hown5 hturn5 x0 x2 z0 z2 f0 d0 d1 d2 d3 HO hwn
          go_wp2
          go_roundw
          case rel => exact ⟨t + 1, by omega, by go_num, HS2⟩
          case measure => simp [intOf]; omega
      · have HS2 : Hid (Sight wn sb mr (.slice (some ⟨nb, no, none⟩) N nc) v1 fn (outOf p (ks.take (t + 1)) S) n ∧ w.grownBy wn (some mr)) := by
          rw [HO.out]
          have h1 : ((outOf p (ks.take t) S).filter fun s => !(decide (xk = 13) && sameB xn s)) = outOf p (ks.take t) S := by
            rw [List.filter_eq_self]
            intro s _
            simp [hk]
          rw [h1]
          exact HS1.out
        have hkb2 : (xk == 13) = false := by simpa using hk
        clear HS1 HO
        go_wp2_with fail
        rw [hwn.out]
        clear hwn
        go_wp2
        go_roundw
        case rel => exact ⟨t + 1, by omega, by go_num, HS2⟩
        case measure => simp [intOf]; omega
    · have HF : Hid (Sight wr sb mr (.slice na N nc) v1 fn (outOf p ks S) n ∧ w.grownBy wr (some mr)) := by
        have h1 := HS.out
        rw [List.take_of_length_le (by have := HK.out; omega)] at h1
        exact h1
      clear HS
      go_wp2
      go_end0
      exact ⟨rfl, HF.out⟩

end Go.Proofs.YtjafneaaefpefaaGreat

namespace Go.Proofs.YtjafneaaefpefaaGreat
open Go.RowKit Go.Maps Go.WideMaps

def SeesAt (p : Pg) (B sb mr : Nat) (na : Option Addr) (N nc : Nat) (fa : Option Addr) (F fcap : Nat) (fn : Int) (k : Nat) : Prop := ∀ (w : World) (S : List ByteArray) (n : Nat), B ≤ w.heap.size → NdR.Row w B (.slice na N nc) p.nodes → FcR.Row w B (.slice fa F fcap) p.fns → Sight w sb mr (.slice na N nc) (.slice fa F fcap) fn S n → n + 13 ^ (deepOf p.nodes (k : Int)).toNat ≤ 1000000000000000 → Calls Tryz.prog 63 #[.pointer (some ⟨sb, 0, none⟩), .int .i64 (k : Int)] w fun e w' => e = .returned (.bool (see p fn k S).1) ∧ (∃ n', Sight w' sb mr (.slice na N nc) (.slice fa F fcap) fn (see p fn k S).2 n' ∧ n' ≤ n + 13 ^ (deepOf p.nodes (k : Int)).toNat) ∧ w.grownBy w' (some mr)
def KidsAt (p : Pg) (B sb mr : Nat) (na : Option Addr) (N nc : Nat) (fa : Option Addr) (F fcap : Nat) (fn : Int) (k : Nat) : Prop := ∀ (w : World) (S : List ByteArray) (n : Nat), B ≤ w.heap.size → NdR.Row w B (.slice na N nc) p.nodes → FcR.Row w B (.slice fa F fcap) p.fns → Sight w sb mr (.slice na N nc) (.slice fa F fcap) fn S n → n + 13 ^ (deepOf p.nodes (k : Int)).toNat ≤ 1000000000000000 → Calls Tryz.prog 62 #[.pointer (some ⟨sb, 0, none⟩), .int .i64 (k : Int)] w fun e w' => e = .returned (.bool (seeL (see p fn) (p.nodes.getD k nd0).kids S).1) ∧ (∃ n', Sight w' sb mr (.slice na N nc) (.slice fa F fcap) fn (seeL (see p fn) (p.nodes.getD k nd0).kids S).2 n' ∧ n' + 1 ≤ n + 13 ^ (deepOf p.nodes (k : Int)).toNat) ∧ w.grownBy w' (some mr)

set_option maxRecDepth 100000 in
set_option maxHeartbeats 6400000 in
theorem kids_any (p : Pg) (B sb mr : Nat) (na : Option Addr) (N nc : Nat) (fa : Option Addr) (F fcap : Nat) (fn : Int) (hp : programOk p = true) (HN : Hid (p.nodes.length = N)) (hlo : B ≤ sb ∧ B ≤ mr) (k : Nat) (hk : k < N) (IH : ∀ c : Nat, c < k → SeesAt p B sb mr na N nc fa F fcap fn c) : KidsAt p B sb mr na N nc fa F fcap fn k := by
  intro w S n hB hR hRF h hn
  have hl := prog_last hp
  have HA := prog_ahead hp
  have hN3 : N ≤ 300 := by have := HN.out; omega
  have hkl : k < p.nodes.length := by have := HN.out; omega
  have hk0 : (0 : Int) ≤ (k : Int) := by omega
  have hk1 : (k : Int) < (N : Int) := by omega
  have hgd : p.nodes.getD k nd0 = p.nodes[k] := by simp [List.getD, hkl]
  have h12 := (anyKids (deep_nodes (m := p.nodes.length - 1) (by omega) hl.2.2 k (by omega))).few
  obtain ⟨M, hM1, hM2, hM3, hM4⟩ := puts_kids hp hkl
  have HC : Hid (∀ c ∈ (p.nodes.getD k nd0).kids, 0 ≤ c ∧ c < (k : Int) ∧ 13 ^ (deepOf p.nodes c).toNat ≤ M) := fun c hc => by
    have h2 := HA k (by omega) c hc
    exact ⟨h2.1, h2.2, hM4 c hc⟩
  rw [hM2] at hn ⊢
  rw [hgd] at HC h12 ⊢
  obtain ⟨b, off, ka, kc, rfl, hb, n0, n1, n2, n3, hKR⟩ := RowNd.at hR k hkl
  obtain ⟨ks, hks⟩ : ∃ ks, Hid (p.nodes[k].kids = ks) := ⟨_, (rfl : p.nodes[k].kids = p.nodes[k].kids)⟩
  rw [hks.out] at n3 hKR HC h12 ⊢
  obtain ⟨K, HK⟩ : ∃ K, Hid (ks.length = K) := ⟨_, (rfl : ks.length = ks.length)⟩
  rw [HK.out] at n3 hKR h12
  have HR : Hid (NdR.Row w B (.slice (some ⟨b, off, none⟩) N nc) p.nodes ∧ FcR.Row w B (.slice fa F fcap) p.fns ∧ RowI w B (.slice ka K kc) ks) := ⟨hR, hRF, hKR⟩
  have HI : Hid (∀ c : Nat, c < k → SeesAt p B sb mr (some ⟨b, off, none⟩) N nc fa F fcap fn c) := IH
  have x0 := cell_at h.at_ 0
  simp at x0
  obtain ⟨r, hr⟩ : ∃ r, Hid (seeL (see p fn) ks S = r) := ⟨_, (rfl : seeL (see p fn) ks S = _)⟩
  rw [hr.out]
  have HS0 : Hid ((seeL (see p fn) (ks.take 0) S).1 = true ∧ (∃ n', Sight w sb mr (.slice (some ⟨b, off, none⟩) N nc) (.slice fa F fcap) fn (seeL (see p fn) (ks.take 0) S).2 n' ∧ n' ≤ n + 0 * M) ∧ w.grownBy w (some mr)) := ⟨rfl, ⟨n, h, by omega⟩, World.grownBy.refl _ _⟩
  clear h hR hRF hKR IH hgd n0 n1 n2 hM2 hM4
  go_enter Tryz.func62, Tryz.ntmps62
  go_wp2_with fail
  go_loopw [17] (fun i wr => ∃ t : Nat, t ≤ K ∧ i = .int .i64 (t : Int) ∧ Hid ((seeL (see p fn) (ks.take t) S).1 = true ∧ (∃ n', Sight wr sb mr (.slice (some ⟨b, off, none⟩) N nc) (.slice fa F fcap) fn (seeL (see p fn) (ks.take t) S).2 n' ∧ n' ≤ n + t * M) ∧ w.grownBy wr (some mr))) (fun i _ => K - (intOf i).toNat)
  case atStart => exact ⟨0, Nat.zero_le _, rfl, HS0.out⟩
  case round =>
    obtain ⟨t, ht, rfl, HS⟩ := hrel
    clear HS0 x0 n3
    have htM : t * M ≤ 12 * M := Nat.mul_le_mul_right M (by omega)
    by_cases hlt : t < K
    · have hT0 : (0 : Int) ≤ (t : Int) := by omega
      have hT1 : (t : Int) < (K : Int) := by omega
      have htl : t < ks.length := by have := HK.out; omega
      have hBr : Below B w wr := below_of_grown HS.out.2.2 hlo.2 hB
      obtain ⟨kb, ko, rfl, hkb, e0⟩ := HR.out.2.2.at t htl
      have f0 := (hBr.cell (p := ⟨kb, ko + t, none⟩) hkb).trans e0
      have hcc := HC.out ks[t] (List.getElem_mem htl)
      obtain ⟨j, hj⟩ : ∃ j : Nat, Hid (ks[t] = (j : Int)) := ⟨ks[t].toNat, (by show _ = _; omega)⟩
      have HNx := seeL_next htl HS.out.1
      have HSt := fun h2 => seeL_stop (st := see p fn) htl HS.out.1 h2
      rw [hr.out] at HSt
      rw [hj.out] at f0 hcc HNx HSt
      rw [Int.toNat_natCast] at HNx HSt
      obtain ⟨St, hSt⟩ : ∃ q, Hid ((seeL (see p fn) (ks.take t) S).2 = q) := ⟨_, (rfl : (seeL (see p fn) (ks.take t) S).2 = _)⟩
      rw [hSt.out] at HNx HSt
      obtain ⟨q1, q2, hq⟩ : ∃ q1 q2, Hid (see p fn j St = (q1, q2)) := ⟨_, _, (rfl : see p fn j St = (_, _))⟩
      have htM2 : (t + 1) * M = t * M + M := by rw [Nat.add_mul, Nat.one_mul]
      have htM3 : (t + 1) * M ≤ 12 * M := Nat.mul_le_mul_right M (by omega)
      obtain ⟨nt, hsight, hnt⟩ := HS.out.2.1
      rw [hSt.out] at hsight
      have cS : Hid (Calls Tryz.prog 63 #[.pointer (some ⟨sb, 0, none⟩), .int .i64 (j : Int)] wr fun e w' => e = .returned (.bool q1) ∧ (∃ n', Sight w' sb mr (.slice (some ⟨b, off, none⟩) N nc) (.slice fa F fcap) fn q2 n' ∧ n' ≤ nt + M) ∧ wr.grownBy w' (some mr)) := by
        have h1 := HI.out j (by omega) wr St nt (Nat.le_trans hB HS.out.2.2.size) (HR.out.1.keep hBr) (HR.out.2.1.keep hBr) hsight (by omega)
        rw [hq.out] at h1
        refine h1.mono ?_
        rintro e w' ⟨g1, ⟨n', g2, g3⟩, g4⟩
        exact ⟨g1, ⟨n', g2, by omega⟩, g4⟩
      rw [hq.out] at HNx
      have HNX : Hid (seeL (see p fn) (ks.take (t + 1)) S = (q1, q2)) := HNx
      have HST : Hid (q1 = false → r = (false, q2)) := fun hh => by
        have h3 := HSt (by rw [hq.out]; exact hh)
        rw [hq.out] at h3
        exact h3
      clear e0 hcc HNx HSt hsight hBr
      cases hq1 : q1
      · rw [hq1] at cS
        have hre := HST.out hq1
        have HG : Hid (w.grownBy wr (some mr)) := HS.out.2.2
        clear HS HNX HST
        go_wp2_with fail
        go_at_call 63
        refine Calls.mono cS.out ?_
        rintro e w1 ⟨rfl, ⟨n1, hs1, hn1⟩, hg1⟩
        have HF : Hid ((∃ n', Sight w1 sb mr (.slice (some ⟨b, off, none⟩) N nc) (.slice fa F fcap) fn q2 n' ∧ n' + 1 ≤ n + 13 * M) ∧ w.grownBy w1 (some mr)) := ⟨⟨n1, hs1, by omega⟩, grown_trans HG.out hg1 (.inr rfl) (.inr rfl)⟩
        clear hs1 hn1 hg1 cS HG
        go_wp2
        go_ret
        rw [hre]
        exact ⟨rfl, HF.out.1, HF.out.2⟩
      · rw [hq1] at cS HNX
        have HG : Hid (w.grownBy wr (some mr)) := HS.out.2.2
        clear HS HST
        go_wp2_with fail
        go_at_call 63
        refine Calls.mono cS.out ?_
        rintro e w1 ⟨rfl, ⟨n1, hs1, hn1⟩, hg1⟩
        have HS1 : Hid ((seeL (see p fn) (ks.take (t + 1)) S).1 = true ∧ (∃ n', Sight w1 sb mr (.slice (some ⟨b, off, none⟩) N nc) (.slice fa F fcap) fn (seeL (see p fn) (ks.take (t + 1)) S).2 n' ∧ n' ≤ n + (t + 1) * M) ∧ w.grownBy w1 (some mr)) := by
          rw [HNX.out]
          exact ⟨rfl, ⟨n1, hs1, by omega⟩, grown_trans HG.out hg1 (.inr rfl) (.inr rfl)⟩
        clear hs1 hn1 hg1 cS HG HNX f0
        go_wp2
        go_roundw
        case rel => exact ⟨t + 1, by omega, by go_num, HS1⟩
        case measure => simp [intOf]; omega
    · have HF : Hid (r.1 = true ∧ (∃ n', Sight wr sb mr (.slice (some ⟨b, off, none⟩) N nc) (.slice fa F fcap) fn r.2 n' ∧ n' + 1 ≤ n + 13 * M) ∧ w.grownBy wr (some mr)) := by
        have h1 := HS.out
        rw [List.take_of_length_le (by have := HK.out; omega), hr.out] at h1
        obtain ⟨g1, ⟨n', g2, g3⟩, g4⟩ := h1
        exact ⟨g1, ⟨n', g2, by omega⟩, g4⟩
      clear HS
      go_wp2
      go_ret
      exact ⟨by rw [HF.out.1]; rfl, HF.out.2.1, HF.out.2.2⟩


set_option maxRecDepth 100000 in
set_option maxHeartbeats 12800000 in
theorem sees_any (p : Pg) (B sb mr : Nat) (na : Option Addr) (N nc : Nat) (fa : Option Addr) (F fcap : Nat) (fn : Int) (hp : programOk p = true) (HN : Hid (p.nodes.length = N)) (HFn : Hid (p.fns.length = F)) (hfn : 0 ≤ fn ∧ fn < (F : Int)) (hlo : B ≤ sb ∧ B ≤ mr) : ∀ k : Nat, k < N → SeesAt p B sb mr na N nc fa F fcap fn k := by
  have hl := prog_last hp
  have HA := prog_ahead hp
  have hN3 : N ≤ 300 := by have := HN.out; omega
  intro k
  induction k using Nat.strongRecOn with
  | _ k ih =>
    intro hk w S n hB hR hRF h hn
    have hkl : k < p.nodes.length := by have := HN.out; omega
    have hk0 : (0 : Int) ≤ (k : Int) := by omega
    have hk1 : (k : Int) < (N : Int) := by omega
    have hgd : p.nodes.getD k nd0 = p.nodes[k] := by simp [List.getD, hkl]
    have hAK := anyKids (deep_nodes (m := p.nodes.length - 1) (by omega) hl.2.2 k (by omega))
    obtain ⟨M, hM1, hM2, hM3, hM4⟩ := puts_kids hp hkl
    have hE := see_eq (p := p) (fn := fn) HA (k := k) (by omega) S
    have HKA := kids_any p B sb mr na N nc fa F fcap fn hp HN hlo k hk (fun c hc => ih c hc (by omega))
    have hHK : Hid (∀ c ∈ (p.nodes.getD k nd0).kids, 0 ≤ c ∧ c < (N : Int)) := fun c hc => by
      have h2 := HA k (by omega) c hc
      omega
    have hsz : Hid (∀ x ∈ p.nodes, x.name.size ≤ 1000000) := fun x hx => by
      obtain ⟨i, hi, rfl⟩ := List.getElem_of_mem hx
      have h1 := (anyKids (deep_nodes (m := p.nodes.length - 1) (by omega) hl.2.2 i (by omega))).name
      have h2 : p.nodes.getD i nd0 = p.nodes[i] := by simp [List.getD, hi]
      rw [h2] at h1
      omega
    have HKC : Hid (∀ W, Below B w W → w.heap.size ≤ W.heap.size → Sight W sb mr (.slice na N nc) (.slice fa F fcap) fn S n → Calls Tryz.prog 62 #[.pointer (some ⟨sb, 0, none⟩), .int .i64 (k : Int)] W fun e w' => e = .returned (.bool (seeL (see p fn) (p.nodes.getD k nd0).kids S).1) ∧ (∃ n', Sight w' sb mr (.slice na N nc) (.slice fa F fcap) fn (seeL (see p fn) (p.nodes.getD k nd0).kids S).2 n' ∧ n' + 1 ≤ n + 13 * M) ∧ W.grownBy w' (some mr)) := fun W hW hz hs => by
      have h1 := HKA W S n (Nat.le_trans hB hz) (hR.keep hW) (hRF.keep hW) hs hn
      rw [hM2] at h1
      exact h1
    clear HKA ih hM4
    rw [hM2] at hn ⊢
    rw [hE]
    clear hE hM2
    rw [hgd] at HKC hAK hHK ⊢
    have hkind := hAK.kind
    have hnm := hAK.name
    have hf12 := hAK.few
    obtain ⟨b, off, ka, kc, rfl, hb, n0, n1, n2, n3, hKR⟩ := RowNd.at hR k hkl
    obtain ⟨q, hq⟩ : ∃ q, Hid (p.nodes[k] = q) := ⟨_, (rfl : p.nodes[k] = p.nodes[k])⟩
    rw [hq.out] at n0 n1 n2 n3 hKR HKC hHK hkind hnm hf12 ⊢
    obtain ⟨kx, mx, nx, ks⟩ := q
    simp only at n0 n1 n2 n3 hKR HKC hHK hkind hnm hf12
    obtain ⟨K, HK⟩ : ∃ K, Hid (ks.length = K) := ⟨_, (rfl : ks.length = ks.length)⟩
    rw [HK.out] at n3 hKR hf12
    obtain ⟨r1, r2, hr⟩ : ∃ r1 r2, Hid (seeL (see p fn) ks S = (r1, r2)) := ⟨_, _, (rfl : seeL (see p fn) ks S = (_, _))⟩
    rw [hr.out] at HKC
    have HR : Hid (NdR.Row w B (.slice (some ⟨b, off, none⟩) N nc) p.nodes ∧ FcR.Row w B (.slice fa F fcap) p.fns ∧ RowI w B (.slice ka K kc) ks) := ⟨hR, hRF, hKR⟩
    obtain ⟨R, hRR⟩ : ∃ R, Hid (seeX p fn (see p fn) ⟨kx, mx, nx, ks⟩ S = R) := ⟨_, (rfl : seeX p fn (see p fn) ⟨kx, mx, nx, ks⟩ S = _)⟩
    rw [hRR.out]
    have hX : (seeOk p fn ⟨kx, mx, nx, ks⟩ S = false → R = (false, S)) ∧ (seeOk p fn ⟨kx, mx, nx, ks⟩ S = true → r1 = false → R = (false, r2)) ∧ (seeOk p fn ⟨kx, mx, nx, ks⟩ S = true → r1 = true → R = (true, seeEnd p ⟨kx, mx, nx, ks⟩ r2)) := by
      rw [← hRR.out]
      unfold seeX
      simp only [hr.out]
      refine ⟨fun e => by rw [if_neg (by simp [e])], fun e1 e2 => by rw [if_pos e1, if_neg (by simp [e2])], fun e1 e2 => by rw [if_pos e1, if_pos e2]⟩
    have HX : Hid _ := hX
    have x0 := cell_at h.at_ 0
    simp at x0
    have hsl := h.lt
    obtain ⟨w0, hw0⟩ : ∃ w0, Hid (w.alloc (.cells #[.int .i64 kx, .int .i64 mx, .string nx, .slice ka K kc] 67) = w0) := ⟨_, (rfl : w.alloc _ = _)⟩
    have hbx : Box w (.cells #[.int .i64 kx, .int .i64 mx, .string nx, .slice ka K kc] 67) w0 := by rw [← hw0.out]; exact Box.first _ _
    have HB0 : Hid (Box w (.cells #[.int .i64 kx, .int .i64 mx, .string nx, .slice ka K kc] 67) w0 ∧ Sight w0 sb mr (.slice (some ⟨b, off, none⟩) N nc) (.slice fa F fcap) fn S n) := ⟨hbx, h.below hbx.below⟩
    have z0 := hbx.cell 0
    have z1 := hbx.cell 1
    have z2 := hbx.cell 2
    have z3 := hbx.cell 3
    simp at z0 z1 z2 z3
    have h0 := h
    clear h hR hRF hKR hgd hbx hX hAK hq
    have hnm2 : nx.size ≤ 1000000 := by omega
    have cK : Hid (∀ W, Below w0.heap.size w0 W → Calls Tryz.prog 62 #[.pointer (some ⟨sb, 0, none⟩), .int .i64 (k : Int)] W fun e w' => e = .returned (.bool r1) ∧ (∃ n', Sight w' sb mr (.slice (some ⟨b, off, none⟩) N nc) (.slice fa F fcap) fn r2 n' ∧ n' + 1 ≤ n + 13 * M) ∧ W.grownBy w' (some mr)) := fun W hW =>
      HKC.out W ((HB0.out.1.below.mono hB).trans (hW.mono (Nat.le_trans hB (Nat.le_of_lt HB0.out.1.lt)))) (Nat.le_trans (Nat.le_of_lt HB0.out.1.lt) hW.size) (HB0.out.2.below hW)
    have cU : Hid (Calls Tryz.prog 40 #[.int .i64 kx] w0 fun e w' => e = .returned (.bool (usesK kx)) ∧ w' = w0) := usesName_any kx w0
    have cH : Hid (Calls Tryz.prog 90 #[.pointer (some ⟨sb, 0, none⟩), .string nx] w0 fun e w' => e = .returned (.bool (scHas S nx)) ∧ Below w0.heap.size w0 w') := sightHas_any sb mr _ _ fn S n nx hnm2 w0 HB0.out.2
    have cC : Hid (Calls Tryz.prog 91 #[.pointer (some ⟨sb, 0, none⟩), .agg #[.int .i64 kx, .int .i64 mx, .string nx, .slice ka K kc]] w0 fun e w' => e = .returned (.bool (scCall p fn nx K)) ∧ Below w0.heap.size w0 w') := mayCall_any p B _ fa F fcap sb mr fn S n hp HFn hfn kx mx nx ka K kc (by omega) w0 (Nat.le_trans hB (Nat.le_of_lt HB0.out.1.lt)) (HR.out.2.1.keep (HB0.out.1.below.mono hB)) HB0.out.2
    clear HKC
    have HML : Hid (mr < w.heap.size) := (by obtain ⟨D, hD, _⟩ := h0.set; exact hD.lt)
    cases hu : usesK kx
    · rw [hu] at cU
      by_cases h12 : kx = 12
      · subst h12
        cases hc : scCall p fn nx K
        · rw [hc] at cC
          have hok : seeOk p fn ⟨12, mx, nx, ks⟩ S = false := by
            unfold seeOk
            simp only [hu, HK.out, hc]
            rfl
          have hRe := HX.out.1 hok
          clear HX cK
          go_enter Tryz.func63, Tryz.ntmps63
          go_wp2_with fail
          rw [hw0.out]
          go_wp2_with fail
          go_at_call 40
          refine Calls.mono cU.out ?_
          rintro e w9 ⟨rfl, hw9⟩
          rw [hw9]
          clear hw9
          go_wp2_with fail
          go_at_call 91
          refine Calls.mono cC.out ?_
          rintro e w1 ⟨rfl, hb1⟩
          have HF : Hid ((∃ n', Sight w1 sb mr (.slice (some ⟨b, off, none⟩) N nc) (.slice fa F fcap) fn S n' ∧ n' ≤ n + 13 * M) ∧ w.grownBy w1 (some mr)) := ⟨⟨n, HB0.out.2.below hb1, by omega⟩, World.grownBy.but (grown_of_below (HB0.out.1.below.trans (hb1.mono (Nat.le_of_lt HB0.out.1.lt)))) _⟩
          clear HB0 hb1 HR
          go_wp2
          go_ret
          rw [hRe]
          exact ⟨rfl, HF.out.1, HF.out.2⟩
        · rw [hc] at cC
          have hok : seeOk p fn ⟨12, mx, nx, ks⟩ S = true := by
            unfold seeOk
            simp only [hu, HK.out, hc]
            rfl
          cases hr1 : r1
          · have hRe := HX.out.2.1 hok hr1
            rw [hr1] at cK
            clear HX
            go_enter Tryz.func63, Tryz.ntmps63
            go_wp2_with fail
            rw [hw0.out]
            go_wp2_with fail
            go_at_call 40
            refine Calls.mono cU.out ?_
            rintro e w9 ⟨rfl, hw9⟩
            rw [hw9]
            clear hw9
            go_wp2_with fail
            go_at_call 91
            refine Calls.mono cC.out ?_
            rintro e w1 ⟨rfl, hb1⟩
            go_wp2_with fail
            go_at_call 62
            refine Calls.mono (cK.out _ hb1) ?_
            rintro e w3 ⟨rfl, ⟨n1, hs1, hn1⟩, hg1⟩
            have HG : Hid (w.grownBy w3 (some mr)) := grown_trans (World.grownBy.but (grown_of_below (HB0.out.1.below.trans ((hb1).mono (Nat.le_of_lt HB0.out.1.lt)))) _) hg1 (.inr rfl) (.inr rfl)
            have HF : Hid ((∃ n', Sight w3 sb mr (.slice (some ⟨b, off, none⟩) N nc) (.slice fa F fcap) fn r2 n' ∧ n' ≤ n + 13 * M) ∧ w.grownBy w3 (some mr)) := ⟨⟨n1, hs1, by omega⟩, HG.out⟩
            clear HB0 hs1 hg1 HR HG cK cU cH cC
            go_wp2
            go_ret
            rw [hRe]
            exact ⟨rfl, HF.out.1, HF.out.2⟩
          · have hRe := HX.out.2.2 hok hr1
            have hse : seeEnd p ⟨12, mx, nx, ks⟩ r2 = r2 := by
              unfold seeEnd
              rw [if_neg (by simp only; omega), if_neg (by simp only; omega)]
            rw [hse] at hRe
            rw [hr1] at cK
            clear HX
            go_enter Tryz.func63, Tryz.ntmps63
            go_wp2_with fail
            rw [hw0.out]
            go_wp2_with fail
            go_at_call 40
            refine Calls.mono cU.out ?_
            rintro e w9 ⟨rfl, hw9⟩
            rw [hw9]
            clear hw9
            go_wp2_with fail
            go_at_call 91
            refine Calls.mono cC.out ?_
            rintro e w1 ⟨rfl, hb1⟩
            go_wp2_with fail
            go_at_call 62
            refine Calls.mono (cK.out _ hb1) ?_
            rintro e w3 ⟨rfl, ⟨n1, hs1, hn1⟩, hg1⟩
            have HG : Hid (w.grownBy w3 (some mr)) := grown_trans (World.grownBy.but (grown_of_below (HB0.out.1.below.trans ((hb1).mono (Nat.le_of_lt HB0.out.1.lt)))) _) hg1 (.inr rfl) (.inr rfl)
            have hml : mr < w.heap.size := HML.out
            have at3 : w3.heap[w.heap.size]? = some (.cells #[.int .i64 12, .int .i64 mx, .string nx, .slice ka K kc] 67 (0, 0)) := (hg1.block _ (Nat.lt_of_lt_of_le HB0.out.1.lt (hb1).size) (fun e => by have : w.heap.size = mr := (by simpa using e); omega)).trans (((hb1).block _ HB0.out.1.lt).trans ((HB0.out.1.b.block w.heap.size (Nat.lt_succ_self _)).trans (heap_alloc_new _ _)))
            have y0 := cell_at at3 0
            have y1 := cell_at at3 1
            have y2 := cell_at at3 2
            have y3 := cell_at at3 3
            simp at y0 y1 y2 y3
            have HF : Hid ((∃ n', Sight w3 sb mr (.slice (some ⟨b, off, none⟩) N nc) (.slice fa F fcap) fn r2 n' ∧ n' ≤ n + 13 * M) ∧ w.grownBy w3 (some mr)) := ⟨⟨n1, hs1, by omega⟩, HG.out⟩
            clear HB0 hs1 hg1 HR HG cK cU cH cC at3 x0 z0 z1 z2 z3
            go_wp2
            go_ret
            rw [hRe]
            exact ⟨rfl, HF.out.1, HF.out.2⟩
      · have g12 : (kx == 12) = false := by simpa using h12
        have hok : seeOk p fn ⟨kx, mx, nx, ks⟩ S = true := by
          unfold seeOk
          simp only [hu, Bool.false_and, Bool.not_false, Bool.true_and]
          simp [h12]
        cases hr1 : r1
        · have hRe := HX.out.2.1 hok hr1
          rw [hr1] at cK
          clear HX
          go_enter Tryz.func63, Tryz.ntmps63
          go_wp2_with fail
          rw [hw0.out]
          go_wp2_with fail
          go_at_call 40
          refine Calls.mono cU.out ?_
          rintro e w9 ⟨rfl, hw9⟩
          rw [hw9]
          clear hw9
          go_wp2_with fail
          go_at_call 62
          refine Calls.mono (cK.out _ (Below.refl w0.heap.size w0)) ?_
          rintro e w3 ⟨rfl, ⟨n1, hs1, hn1⟩, hg1⟩
          have HG : Hid (w.grownBy w3 (some mr)) := grown_trans (World.grownBy.but (grown_of_below (HB0.out.1.below.trans (((Below.refl w0.heap.size w0)).mono (Nat.le_of_lt HB0.out.1.lt)))) _) hg1 (.inr rfl) (.inr rfl)
          have HF : Hid ((∃ n', Sight w3 sb mr (.slice (some ⟨b, off, none⟩) N nc) (.slice fa F fcap) fn r2 n' ∧ n' ≤ n + 13 * M) ∧ w.grownBy w3 (some mr)) := ⟨⟨n1, hs1, by omega⟩, HG.out⟩
          clear HB0 hs1 hg1 HR HG cK cU cH cC
          go_wp2
          go_ret
          rw [hRe]
          exact ⟨rfl, HF.out.1, HF.out.2⟩
        · by_cases h13 : kx = 13
          · subst h13
            have hRe := HX.out.2.2 hok hr1
            have hse : seeEnd p ⟨13, mx, nx, ks⟩ r2 = r2 ++ [nx] := by
              unfold seeEnd
              rw [if_pos rfl]
            rw [hse] at hRe
            rw [hr1] at cK
            clear HX
            go_enter Tryz.func63, Tryz.ntmps63
            go_wp2_with fail
            rw [hw0.out]
            go_wp2_with fail
            go_at_call 40
            refine Calls.mono cU.out ?_
            rintro e w9 ⟨rfl, hw9⟩
            rw [hw9]
            clear hw9
            go_wp2_with fail
            go_at_call 62
            refine Calls.mono (cK.out _ (Below.refl w0.heap.size w0)) ?_
            rintro e w3 ⟨rfl, ⟨n1, hs1, hn1⟩, hg1⟩
            have HG : Hid (w.grownBy w3 (some mr)) := grown_trans (World.grownBy.but (grown_of_below (HB0.out.1.below.trans (((Below.refl w0.heap.size w0)).mono (Nat.le_of_lt HB0.out.1.lt)))) _) hg1 (.inr rfl) (.inr rfl)
            have hml : mr < w.heap.size := HML.out
            have at3 : w3.heap[w.heap.size]? = some (.cells #[.int .i64 13, .int .i64 mx, .string nx, .slice ka K kc] 67 (0, 0)) := (hg1.block _ (Nat.lt_of_lt_of_le HB0.out.1.lt ((Below.refl w0.heap.size w0)).size) (fun e => by have : w.heap.size = mr := (by simpa using e); omega)).trans ((((Below.refl w0.heap.size w0)).block _ HB0.out.1.lt).trans ((HB0.out.1.b.block w.heap.size (Nat.lt_succ_self _)).trans (heap_alloc_new _ _)))
            have y0 := cell_at at3 0
            have y1 := cell_at at3 1
            have y2 := cell_at at3 2
            have y3 := cell_at at3 3
            simp at y0 y1 y2 y3
            have HS3 : Hid (Sight w3 sb mr (.slice (some ⟨b, off, none⟩) N nc) (.slice fa F fcap) fn r2 n1) := hs1
            clear HB0 hs1 hg1 HR cK cU cH cC at3 x0 z0 z1 z2 z3
            go_wp2_with fail
            go_at_call 61
            refine Calls.mono (sightBegin_any sb mr _ _ fn r2 n1 nx hnm2 (by omega) w3 HS3.out) ?_
            rintro e w4 ⟨rfl, hs4, hg4⟩
            have HF : Hid ((∃ n', Sight w4 sb mr (.slice (some ⟨b, off, none⟩) N nc) (.slice fa F fcap) fn (r2 ++ [nx]) n' ∧ n' ≤ n + 13 * M) ∧ w.grownBy w4 (some mr)) := ⟨⟨n1 + 1, hs4, by omega⟩, grown_trans HG.out hg4 (.inr rfl) (.inr rfl)⟩
            clear hs4 hg4 HS3 HG
            go_wp2
            go_ret
            rw [hRe]
            exact ⟨rfl, HF.out.1, HF.out.2⟩
          by_cases h20 : kx = 20
          · subst h20
            have hRe := HX.out.2.2 hok hr1
            have hse : seeEnd p ⟨20, mx, nx, ks⟩ r2 = outOf p ks r2 := by
              unfold seeEnd
              rw [if_neg (by simp), if_pos rfl]
            rw [hse] at hRe
            rw [hr1] at cK
            clear HX
            go_enter Tryz.func63, Tryz.ntmps63
            go_wp2_with fail
            rw [hw0.out]
            go_wp2_with fail
            go_at_call 40
            refine Calls.mono cU.out ?_
            rintro e w9 ⟨rfl, hw9⟩
            rw [hw9]
            clear hw9
            go_wp2_with fail
            go_at_call 62
            refine Calls.mono (cK.out _ (Below.refl w0.heap.size w0)) ?_
            rintro e w3 ⟨rfl, ⟨n1, hs1, hn1⟩, hg1⟩
            have HG : Hid (w.grownBy w3 (some mr)) := grown_trans (World.grownBy.but (grown_of_below (HB0.out.1.below.trans (((Below.refl w0.heap.size w0)).mono (Nat.le_of_lt HB0.out.1.lt)))) _) hg1 (.inr rfl) (.inr rfl)
            have hml : mr < w.heap.size := HML.out
            have at3 : w3.heap[w.heap.size]? = some (.cells #[.int .i64 20, .int .i64 mx, .string nx, .slice ka K kc] 67 (0, 0)) := (hg1.block _ (Nat.lt_of_lt_of_le HB0.out.1.lt ((Below.refl w0.heap.size w0)).size) (fun e => by have : w.heap.size = mr := (by simpa using e); omega)).trans ((((Below.refl w0.heap.size w0)).block _ HB0.out.1.lt).trans ((HB0.out.1.b.block w.heap.size (Nat.lt_succ_self _)).trans (heap_alloc_new _ _)))
            have y0 := cell_at at3 0
            have y1 := cell_at at3 1
            have y2 := cell_at at3 2
            have y3 := cell_at at3 3
            simp at y0 y1 y2 y3
            have HS3 : Hid (Sight w3 sb mr (.slice (some ⟨b, off, none⟩) N nc) (.slice fa F fcap) fn r2 n1) := hs1
            have hB3 : Below B w w3 := below_of_grown HG.out hlo.2 hB
            clear HB0 hs1 hg1 cK cU cH cC at3 x0 z0 z1 z2 z3
            go_wp2_with fail
            go_at_call 92
            refine Calls.mono (end_any p B _ N nc sb mr _ fn r2 n1 HN hsz.out 20 mx nx ka K kc ks HK hHK.out (by omega) w3 (Nat.le_trans hB HG.out.size) hlo (HR.out.1.keep hB3) (HR.out.2.2.keep hB3) HS3.out) ?_
            rintro e w4 ⟨rfl, hs4, hg4⟩
            have HF : Hid ((∃ n', Sight w4 sb mr (.slice (some ⟨b, off, none⟩) N nc) (.slice fa F fcap) fn (outOf p ks r2) n' ∧ n' ≤ n + 13 * M) ∧ w.grownBy w4 (some mr)) := ⟨⟨n1, hs4, by omega⟩, grown_trans HG.out hg4 (.inr rfl) (.inr rfl)⟩
            clear hs4 hg4 HS3 HG hB3
            go_wp2
            go_ret
            rw [hRe]
            exact ⟨rfl, HF.out.1, HF.out.2⟩
          have g13 : (kx == 13) = false := by simpa using h13
          have g20 : (kx == 20) = false := by simpa using h20
          have hRe := HX.out.2.2 hok hr1
          have hse : seeEnd p ⟨kx, mx, nx, ks⟩ r2 = r2 := by
            unfold seeEnd
            rw [if_neg (by simp only; omega), if_neg (by simp only; omega)]
          rw [hse] at hRe
          rw [hr1] at cK
          clear HX
          go_enter Tryz.func63, Tryz.ntmps63
          go_wp2_with fail
          rw [hw0.out]
          go_wp2_with fail
          go_at_call 40
          refine Calls.mono cU.out ?_
          rintro e w9 ⟨rfl, hw9⟩
          rw [hw9]
          clear hw9
          go_wp2_with fail
          go_at_call 62
          refine Calls.mono (cK.out _ (Below.refl w0.heap.size w0)) ?_
          rintro e w3 ⟨rfl, ⟨n1, hs1, hn1⟩, hg1⟩
          have HG : Hid (w.grownBy w3 (some mr)) := grown_trans (World.grownBy.but (grown_of_below (HB0.out.1.below.trans (((Below.refl w0.heap.size w0)).mono (Nat.le_of_lt HB0.out.1.lt)))) _) hg1 (.inr rfl) (.inr rfl)
          have hml : mr < w.heap.size := HML.out
          have at3 : w3.heap[w.heap.size]? = some (.cells #[.int .i64 kx, .int .i64 mx, .string nx, .slice ka K kc] 67 (0, 0)) := (hg1.block _ (Nat.lt_of_lt_of_le HB0.out.1.lt ((Below.refl w0.heap.size w0)).size) (fun e => by have : w.heap.size = mr := (by simpa using e); omega)).trans ((((Below.refl w0.heap.size w0)).block _ HB0.out.1.lt).trans ((HB0.out.1.b.block w.heap.size (Nat.lt_succ_self _)).trans (heap_alloc_new _ _)))
          have y0 := cell_at at3 0
          have y1 := cell_at at3 1
          have y2 := cell_at at3 2
          have y3 := cell_at at3 3
          simp at y0 y1 y2 y3
          have HF : Hid ((∃ n', Sight w3 sb mr (.slice (some ⟨b, off, none⟩) N nc) (.slice fa F fcap) fn r2 n' ∧ n' ≤ n + 13 * M) ∧ w.grownBy w3 (some mr)) := ⟨⟨n1, hs1, by omega⟩, HG.out⟩
          clear HB0 hs1 hg1 HR HG cK cU cH cC at3 x0 z0 z1 z2 z3
          go_wp2
          go_ret
          rw [hRe]
          exact ⟨rfl, HF.out.1, HF.out.2⟩
    · rw [hu] at cU
      have hku : kx ≠ 12 ∧ kx ≠ 13 ∧ kx ≠ 20 := by
        unfold usesK at hu
        simp only [Bool.or_eq_true, decide_eq_true_eq] at hu
        omega
      have g12 : (kx == 12) = false := by simpa using hku.1
      have g13 : (kx == 13) = false := by simpa using hku.2.1
      have g20 : (kx == 20) = false := by simpa using hku.2.2
      cases hh : scHas S nx
      · rw [hh] at cH
        have hok : seeOk p fn ⟨kx, mx, nx, ks⟩ S = false := by
          unfold seeOk
          simp only [hu, hh]
          rfl
        have hRe := HX.out.1 hok
        clear HX cK
        go_enter Tryz.func63, Tryz.ntmps63
        go_wp2_with fail
        rw [hw0.out]
        go_wp2_with fail
        go_at_call 40
        refine Calls.mono cU.out ?_
        rintro e w9 ⟨rfl, hw9⟩
        rw [hw9]
        clear hw9
        go_wp2_with fail
        go_at_call 90
        refine Calls.mono cH.out ?_
        rintro e w1 ⟨rfl, hb1⟩
        have HF : Hid ((∃ n', Sight w1 sb mr (.slice (some ⟨b, off, none⟩) N nc) (.slice fa F fcap) fn S n' ∧ n' ≤ n + 13 * M) ∧ w.grownBy w1 (some mr)) := ⟨⟨n, HB0.out.2.below hb1, by omega⟩, World.grownBy.but (grown_of_below (HB0.out.1.below.trans (hb1.mono (Nat.le_of_lt HB0.out.1.lt)))) _⟩
        clear HB0 hb1 HR
        go_wp2
        go_ret
        rw [hRe]
        exact ⟨rfl, HF.out.1, HF.out.2⟩
      · rw [hh] at cH
        have hok : seeOk p fn ⟨kx, mx, nx, ks⟩ S = true := by
          unfold seeOk
          simp only [hu, hh]
          simp [hku.1]
        cases hr1 : r1
        · have hRe := HX.out.2.1 hok hr1
          rw [hr1] at cK
          clear HX
          go_enter Tryz.func63, Tryz.ntmps63
          go_wp2_with fail
          rw [hw0.out]
          go_wp2_with fail
          go_at_call 40
          refine Calls.mono cU.out ?_
          rintro e w9 ⟨rfl, hw9⟩
          rw [hw9]
          clear hw9
          go_wp2_with fail
          go_at_call 90
          refine Calls.mono cH.out ?_
          rintro e w1 ⟨rfl, hb1⟩
          have u0 := (hb1.cell (p := ⟨w.heap.size, 0, none⟩) HB0.out.1.lt).trans z0
          go_wp2_with fail
          go_at_call 62
          refine Calls.mono (cK.out _ hb1) ?_
          rintro e w3 ⟨rfl, ⟨n1, hs1, hn1⟩, hg1⟩
          have HG : Hid (w.grownBy w3 (some mr)) := grown_trans (World.grownBy.but (grown_of_below (HB0.out.1.below.trans ((hb1).mono (Nat.le_of_lt HB0.out.1.lt)))) _) hg1 (.inr rfl) (.inr rfl)
          have HF : Hid ((∃ n', Sight w3 sb mr (.slice (some ⟨b, off, none⟩) N nc) (.slice fa F fcap) fn r2 n' ∧ n' ≤ n + 13 * M) ∧ w.grownBy w3 (some mr)) := ⟨⟨n1, hs1, by omega⟩, HG.out⟩
          clear HB0 hs1 hg1 HR HG cK cU cH cC
          go_wp2
          go_ret
          rw [hRe]
          exact ⟨rfl, HF.out.1, HF.out.2⟩
        · have hRe := HX.out.2.2 hok hr1
          have hse : seeEnd p ⟨kx, mx, nx, ks⟩ r2 = r2 := by
            unfold seeEnd
            rw [if_neg (by simp only; omega), if_neg (by simp only; omega)]
          rw [hse] at hRe
          rw [hr1] at cK
          clear HX
          go_enter Tryz.func63, Tryz.ntmps63
          go_wp2_with fail
          rw [hw0.out]
          go_wp2_with fail
          go_at_call 40
          refine Calls.mono cU.out ?_
          rintro e w9 ⟨rfl, hw9⟩
          rw [hw9]
          clear hw9
          go_wp2_with fail
          go_at_call 90
          refine Calls.mono cH.out ?_
          rintro e w1 ⟨rfl, hb1⟩
          have u0 := (hb1.cell (p := ⟨w.heap.size, 0, none⟩) HB0.out.1.lt).trans z0
          go_wp2_with fail
          go_at_call 62
          refine Calls.mono (cK.out _ hb1) ?_
          rintro e w3 ⟨rfl, ⟨n1, hs1, hn1⟩, hg1⟩
          have HG : Hid (w.grownBy w3 (some mr)) := grown_trans (World.grownBy.but (grown_of_below (HB0.out.1.below.trans ((hb1).mono (Nat.le_of_lt HB0.out.1.lt)))) _) hg1 (.inr rfl) (.inr rfl)
          have hml : mr < w.heap.size := HML.out
          have at3 : w3.heap[w.heap.size]? = some (.cells #[.int .i64 kx, .int .i64 mx, .string nx, .slice ka K kc] 67 (0, 0)) := (hg1.block _ (Nat.lt_of_lt_of_le HB0.out.1.lt (hb1).size) (fun e => by have : w.heap.size = mr := (by simpa using e); omega)).trans (((hb1).block _ HB0.out.1.lt).trans ((HB0.out.1.b.block w.heap.size (Nat.lt_succ_self _)).trans (heap_alloc_new _ _)))
          have y0 := cell_at at3 0
          have y1 := cell_at at3 1
          have y2 := cell_at at3 2
          have y3 := cell_at at3 3
          simp at y0 y1 y2 y3
          have HF : Hid ((∃ n', Sight w3 sb mr (.slice (some ⟨b, off, none⟩) N nc) (.slice fa F fcap) fn r2 n' ∧ n' ≤ n + 13 * M) ∧ w.grownBy w3 (some mr)) := ⟨⟨n1, hs1, by omega⟩, HG.out⟩
          clear HB0 hs1 hg1 HR HG cK cU cH cC at3 x0 z0 z1 z2 z3
          go_wp2
          go_ret
          rw [hRe]
          exact ⟨rfl, HF.out.1, HF.out.2⟩
end Go.Proofs.YtjafneaaefpefaaGreat
