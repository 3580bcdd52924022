/-
  Programs marked, as the laws do it: only blocks of the program turn.
-/
import Derived.Test.YtccelfjlffoiiaaMarkNode
import Derived.Test.YtccelfjlffoiiaaMarkFn
import Derived.Test.YtccelfjlffoiiaaRowProgram
import Derived.Test.YtccelfjlffoiiaaBox
namespace Go.Proofs.Ytccelfjlffoiiaa
open Go.RowKit

/-- Only blocks B .. H may have turned; new ones may be there. -/
structure Rim (B H : Nat) (w w' : World) : Prop where
  os : w'.os = w.os
  tape : w'.tape = w.tape
  output : w'.output = w.output
  size : w.heap.size ≤ w'.heap.size
  block : ∀ g, g < w.heap.size → g < B ∨ H ≤ g → w'.heap[g]? = w.heap[g]?
theorem Rim.refl (B H : Nat) (w : World) : Rim B H w w := ⟨rfl, rfl, rfl, Nat.le_refl _, fun _ _ _ => rfl⟩
theorem Rim.trans {B H : Nat} {a b c : World} (h : Rim B H a b) (k : Rim B H b c) : Rim B H a c :=
  ⟨k.os.trans h.os, k.tape.trans h.tape, k.output.trans h.output, Nat.le_trans h.size k.size, fun g hg hn => (k.block g (Nat.lt_of_lt_of_le hg h.size) hn).trans (h.block g hg hn)⟩
theorem Rim.of_kept {vs : List Value} {B H : Nat} {w w' : World} (h : Kept vs w w') (hf : ∀ g ∈ fps vs, B ≤ g ∧ g < H) : Rim B H w w' :=
  ⟨h.os, h.tape, h.output, h.size, fun g hg hn => h.block g hg (fun hm => by have := hf g hm; omega)⟩
theorem Rim.of_below {B H : Nat} {w w' : World} (h : Below w.heap.size w w') : Rim B H w w' := ⟨h.os, h.tape, h.output, h.size, fun g hg _ => h.block g hg⟩
theorem Rim.below {B H : Nat} {w w' : World} (h : Rim B H w w') (hB : B ≤ w.heap.size) : Below B w w' := ⟨h.os, h.tape, h.output, h.size, fun g hg => h.block g (by omega) (.inl hg)⟩

theorem markN_sz {α : Type} (ln sz : α → Nat) (h : ∀ x, ln x ≤ 4 + 4 * sz x) : ∀ xs : List α, markN ln xs ≤ 4 * szRow sz xs := by
  intro xs
  induction xs with
  | nil => exact Nat.zero_le _
  | cons x xs ih =>
    have := h x
    unfold szRow at ih ⊢
    simp only [markN, List.length_cons, List.map_cons, List.sum_cons]
    omega
theorem lnNd_sz (ns : List Nd) : markN lnNd ns ≤ 4 * szRow szNd ns := markN_sz lnNd szNd (fun x => by unfold lnNd szNd; rw [lnI_len]; omega) ns
theorem lnPm_sz (ps : List Pm) : markN lnPm ps ≤ 4 * szRow szPm ps := markN_sz lnPm szPm (fun x => by unfold lnPm; omega) ps
theorem lnFc_sz (fs : List Fc) : markN lnFc fs ≤ 4 * szRow szFc fs := markN_sz lnFc szFc (fun x => by unfold lnFc szFc; have := lnPm_sz x.params; omega) fs
theorem lnNdP_map (ps : List (Nd × Value)) : markN lnNdP ps = markN lnNd (ps.map Prod.fst) := markN_map (ln' := lnNd) (log := Prod.fst) (fun _ => rfl) ps
theorem lnFcP_map (ps : List (Fc × Value)) : markN lnFcP ps = markN lnFc (ps.map Prod.fst) := markN_map (ln' := lnFc) (log := Prod.fst) (fun _ => rfl) ps

set_option maxRecDepth 100000 in
set_option maxHeartbeats 1600000 in
theorem markProgram_any (B H : Nat) (v0 v1 : Value) (p : Pg) (w : World) (hO : OwnPg w B H v0 v1 p) (hH : H ≤ w.heap.size) (hl : szPg p ≤ 1048576) :
    Calls Try.prog 26 #[.agg #[v0, v1], .int .i64 1] w fun e w' => (∃ r : Nat, e = .returned (.int .i64 (r : Int)) ∧ r ≤ 1000000000) ∧ Rim B H w w' := by
  obtain ⟨M, hBM, hMH, hN, hF⟩ := hO
  obtain ⟨ps, hps, hpp, hpn, hpb⟩ := hN
  obtain ⟨fs, hfs, hfp, hfn, hfb⟩ := hF
  have hb1 : 1 + markN lnNdP ps + markN lnFcP fs ≤ 1000000000 := by
    have h1 := lnNd_sz p.nodes
    have h2 := lnFc_sz p.fns
    have e1 : markN lnNdP ps = markN lnNd p.nodes := by rw [lnNdP_map, ← hps]; rfl
    have e2 : markN lnFcP fs = markN lnFc p.fns := by rw [lnFcP_map, ← hfs]; rfl
    rw [e1, e2]
    unfold szPg at hl
    omega
  have cN : Hid (∀ W, Below w.heap.size w W → Calls Try.prog 31 #[v0, .int .i64 ((1 : Nat) : Int)] W fun e' w' => e' = .returned (.int .i64 ((1 + markN lnNdP ps : Nat) : Int)) ∧ NdR.Phys w' B v0 (markL mkNdP lnNdP 1 ps) ∧ Kept (NdR.all v0 ps) W w') := fun W hW =>
    markNodeS_any B v0 1 ps W (by omega) (by omega) (hpp.below hW) hpn
  have cF : Hid (∀ W, FcR.Phys W M v1 fs → Calls Try.prog 55 #[v1, .int .i64 ((1 + markN lnNdP ps : Nat) : Int)] W fun e' w' => e' = .returned (.int .i64 ((1 + markN lnNdP ps + markN lnFcP fs : Nat) : Int)) ∧ FcR.Phys w' M v1 (markL mkFcP lnFcP (1 + markN lnNdP ps) fs) ∧ Kept (FcR.all v1 fs) W w') := fun W hW =>
    markFnS_any M v1 (1 + markN lnNdP ps) fs W hb1 (by omega) hW hfn
  obtain ⟨k1, hk1⟩ : ∃ k, Hid (1 + markN lnNdP ps = k) := ⟨_, (rfl : 1 + markN lnNdP ps = _)⟩
  rw [hk1.out] at cN cF hb1
  obtain ⟨k2, hk2⟩ : ∃ k, Hid (k1 + markN lnFcP fs = k) := ⟨_, (rfl : k1 + markN lnFcP fs = _)⟩
  rw [hk2.out] at cF hb1
  have HP : Hid (FcR.Phys w M v1 fs ∧ (∀ g ∈ fps (NdR.all v0 ps), B ≤ g ∧ g < M) ∧ ∀ g ∈ fps (FcR.all v1 fs), M ≤ g ∧ g < H) := ⟨hfp, hpb, hfb⟩
  clear hpp hpn hpb hfp hfn hfb hps hfs
  go_enter Try.func26, Try.ntmps26
  go_wp2_with fail
  go_at_call 31
  refine Calls.mono (cN.out _ (by go_grown)) ?_
  rintro e w1 ⟨rfl, _, hk⟩
  have R1 : Hid (Rim B H w w1) := (Rim.of_below ((Below.refl _ _).alloc (Nat.le_refl _) _)).trans (Rim.of_kept hk (fun g hg => by have := HP.out.2.1 g hg; omega))
  have P1 : Hid (FcR.Phys w1 M v1 fs) := (HP.out.1.below ((Below.refl _ _).alloc (Nat.le_refl _) _)).kept hk (fun g hg hm => by have := HP.out.2.1 g hm; have := HP.out.2.2 g hg; omega)
  have q1 : w1.cell? ⟨w.heap.size, 1, none⟩ = some v1 := by
    have h0 := hk.block w.heap.size (by simp) (fun hm => by have := HP.out.2.1 _ hm; omega)
    exact cell_at (h0.trans (heap_alloc_new _ _)) 1
  clear hk cN
  go_wp2_with fail
  go_at_call 55
  refine Calls.mono (cF.out _ P1.out) ?_
  rintro e w2 ⟨rfl, _, hk⟩
  have R2 : Hid (Rim B H w w2) := R1.out.trans (Rim.of_kept hk (fun g hg => by have := HP.out.2.2 g hg; omega))
  clear hk cF q1
  go_wp2
  go_ret
  exact ⟨⟨_, rfl, hb1⟩, R2.out⟩

end Go.Proofs.Ytccelfjlffoiiaa
