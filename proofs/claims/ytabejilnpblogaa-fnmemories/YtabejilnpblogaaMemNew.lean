/-
  A new memory, on both sides.
-/
import Derived.Test.YtabejilnpblogaaEqMem
import Derived.Test.YtabejilnpblogaaKpOf
namespace Go.Proofs.Ytabejilnpblogaa
open Go.RowKit

set_option maxRecDepth 100000 in
set_option maxHeartbeats 1600000 in
theorem specNew_any (B : Nat) (a : Option Addr) (n c : Nat) (xs : List Int) (f : Int) (w : World) (hB : B ≤ w.heap.size) (hv : RowI w B (.slice a n c) xs) (hn : nilOk (.slice a n c)) (hl : xs.length ≤ 2000000) :
    Calls Try.prog 82 #[.slice a n c, .int .i64 f] w fun e w' => ∃ a1 n1 c1, e = .returned (.agg #[.slice none 0 0, .slice a1 n1 c1, .slice none 0 0, .int .i64 f, .int .i64 0]) ∧ RowMm w' w'.heap.size (.slice none 0 0) (.slice a1 n1 c1) (.slice none 0 0) (newM xs f) ∧ Below w.heap.size w w' := by
  have HE : Hid (OwnsI ((w.alloc (.cells #[.slice none 0 0, .slice none 0 0, .slice none 0 0, .int .i64 0, .int .i64 0] 27 (0, 0))).alloc (.cells #[] 3)) w.heap.size (.slice (some ⟨w.heap.size + 1, 0, none⟩) 0 0) []) := owns_emptyAt (by have := heap_alloc_new (w.alloc (.cells #[.slice none 0 0, .slice none 0 0, .slice none 0 0, .int .i64 0, .int .i64 0] 27 (0, 0))) (.cells #[] 3); simpa using this) (by omega)
  have B1 : Hid (Box w (.cells #[.slice none 0 0, .slice none 0 0, .slice none 0 0, .int .i64 0, .int .i64 0] 27 (0, 0)) ((w.alloc (.cells #[.slice none 0 0, .slice none 0 0, .slice none 0 0, .int .i64 0, .int .i64 0] 27 (0, 0))).alloc (.cells #[] 3))) := (Box.first _ _).alloc _
  have HS : Hid (RowI ((w.alloc (.cells #[.slice none 0 0, .slice none 0 0, .slice none 0 0, .int .i64 0, .int .i64 0] 27 (0, 0))).alloc (.cells #[] 3)) B (.slice a n c) xs) := hv.keep (B1.out.below.mono hB)
  clear hv
  go_enter Try.func82, Try.ntmps82
  go_wp2_with (at_builtin; go_must (refine appendRow inC_len rfl _ _ 25 rfl w.heap.size 3 _ 8 Try.underlying25 Try.infoInt rfl (by decide) HE.out xs B a n c HS.out hn (inC_one _) rfl rfl (by simp; omega) (by omega) (by simp; omega) ?_); intro a' n' c' w2 ho hg hat; have hb2 : Below (w.heap.size + 1) ((w.alloc (.cells #[.slice none 0 0, .slice none 0 0, .slice none 0 0, .int .i64 0, .int .i64 0] 27 (0, 0))).alloc (.cells #[] 3)) w2 := (Below.refl _ _).grown hg (by simp) (fun x hx => by have h0 : x = w.heap.size + 1 := (Option.some.inj hx).symm; omega); have hr := (hb2.block w.heap.size (by omega)).trans ((Below.heap_alloc _ _ _ (by simp)).trans (heap_alloc_new w _)); have HR : Hid (w2.heap[w.heap.size]? = some (.cells #[.slice none 0 0, .slice none 0 0, .slice none 0 0, .int .i64 0, .int .i64 0] 27 (0, 0))) := hr; have HO : Hid (OwnsI w2 w.heap.size (.slice a' n' c') xs ∧ ∀ g ∈ fpOf (.slice a' n' c'), w.heap.size < g) := ⟨ho, fun g hg' => by have := fp_app (W := (w.alloc (.cells #[.slice none 0 0, .slice none 0 0, .slice none 0 0, .int .i64 0, .int .i64 0] 27 (0, 0)))) (e := 3) hat (by simp) g hg'; simp at this; omega⟩; have HB : Hid (Below w.heap.size w w2) := B1.out.below.trans (hb2.mono (by omega)); have r0 := cell_at hr 0; have r1 := cell_at hr 1; have r2 := cell_at hr 2; have r3 := cell_at hr 3; have r4 := cell_at hr 4; have f0 := free_at hr 0; have f1 := free_at hr 1; have f2 := free_at hr 2; have f3 := free_at hr 3; have f4 := free_at hr 4; simp at r0 r1 r2 r3 r4; clear ho hg hat hb2 hr HE HS B1)
  obtain ⟨Z, hZ⟩ : ∃ Z, Z = (((((w2.setCell ⟨w.heap.size, 0, none⟩ (.slice none 0 0)).setCell ⟨w.heap.size, 1, none⟩ (.slice a' n' c')).setCell ⟨w.heap.size, 2, none⟩ (.slice none 0 0)).setCell ⟨w.heap.size, 3, none⟩ (.int .i64 f)).setCell ⟨w.heap.size, 4, none⟩ (.int .i64 0)) := ⟨_, rfl⟩
  rw [← hZ]
  have h2 : Z.heap[w.heap.size]? = some (.cells #[.slice none 0 0, .slice a' n' c', .slice none 0 0, .int .i64 f, .int .i64 0] 27 (0, 0)) := by
    rw [hZ]
    exact heap_set (heap_set (heap_set (heap_set (heap_set HR.out))))
  have e0 := cell_at h2 0
  have e1 := cell_at h2 1
  have e2 := cell_at h2 2
  have e3 := cell_at h2 3
  have e4 := cell_at h2 4
  simp at e0 e1 e2 e3 e4
  have hs : ∀ g, g ≠ w.heap.size → Z.heap[g]? = w2.heap[g]? := fun g hg => by rw [hZ]; simp only [kept_set hg]
  have hO : OwnsI Z w.heap.size (.slice a' n' c') xs := OwnsR.same HO.out.1 (fun g hg => hs g (by have := HO.out.2 g hg; omega))
  have hb : Below w.heap.size w Z := by
    rw [hZ]
    exact ((((HB.out.setCell (p := ⟨w.heap.size, 0, none⟩) (Nat.le_refl _) _).setCell (p := ⟨w.heap.size, 1, none⟩) (Nat.le_refl _) _).setCell (p := ⟨w.heap.size, 2, none⟩) (Nat.le_refl _) _).setCell (p := ⟨w.heap.size, 3, none⟩) (Nat.le_refl _) _).setCell (p := ⟨w.heap.size, 4, none⟩) (Nat.le_refl _) _
  refine bodyPost_ret (by simp [results, Try.results82, go_sem, e0, e1, e2, e3, e4]; try rfl) rfl ?_
  exact ⟨_, _, _, rfl, ⟨CeR.row_nil _ _ _ _, OwnsI.row hO, ⟨none, 0, rfl, Nat.le_refl _, .inl rfl⟩⟩, hb⟩

set_option maxRecDepth 100000 in
set_option maxHeartbeats 1600000 in
theorem implNew_any (B : Nat) (a : Option Addr) (n c : Nat) (xs : List Int) (f : Int) (w : World) (hB : B ≤ w.heap.size) (hv : RowI w B (.slice a n c) xs) (hn : nilOk (.slice a n c)) (hl : xs.length ≤ 1048576) :
    Calls Try.prog 34 #[.slice a n c, .int .i64 f] w fun e w' => ∃ a1 n1 c1, e = .returned (.agg #[.slice none 0 0, .slice a1 n1 c1, .slice none 0 0, .int .i64 f, .int .i64 0]) ∧ OwnMm w' w.heap.size w'.heap.size (.slice none 0 0) (.slice a1 n1 c1) (.slice none 0 0) (newM xs f) ∧ Below w.heap.size w w' := by
  have B1 : Hid (Box w (.cells #[.slice none 0 0, .slice none 0 0, .slice none 0 0, .int .i64 0, .int .i64 0] 27 (0, 0)) (w.alloc (.cells #[.slice none 0 0, .slice none 0 0, .slice none 0 0, .int .i64 0, .int .i64 0] 27 (0, 0)))) := Box.first _ _
  have cC := cloneN_any B a n c xs (w.alloc (.cells #[.slice none 0 0, .slice none 0 0, .slice none 0 0, .int .i64 0, .int .i64 0] 27 (0, 0))) (Nat.le_trans hB B1.out.below.size) (hv.keep (B1.out.below.mono hB)) hn hl
  have CC : Hid _ := cC
  clear cC hv hn
  go_enter Try.func34, Try.ntmps34
  go_wp2_with fail
  go_at_call 77
  refine Calls.mono CC.out ?_
  rintro e w2 ⟨a', n', c', rfl, ho, hb⟩
  have B2 : Hid (Box w (.cells #[.slice none 0 0, .slice none 0 0, .slice none 0 0, .int .i64 0, .int .i64 0] 27 (0, 0)) w2) := B1.out.next hb
  have HO : Hid (OwnsI w2 (w.heap.size + 1) (.slice a' n' c') xs) := OwnsR.base ho (fun g hg => by have := (OwnsR.lt ho g hg).1; simp at this; omega)
  have hr : w2.heap[w.heap.size]? = some (.cells #[.slice none 0 0, .slice none 0 0, .slice none 0 0, .int .i64 0, .int .i64 0] 27 (0, 0)) := (B2.out.b.block w.heap.size (Nat.lt_succ_self _)).trans (heap_alloc_new _ _)
  have HR : Hid _ := hr
  have r0 := cell_at hr 0
  have r1 := cell_at hr 1
  have r2 := cell_at hr 2
  have r3 := cell_at hr 3
  have r4 := cell_at hr 4
  have f0 := free_at hr 0
  have f1 := free_at hr 1
  have f2 := free_at hr 2
  have f3 := free_at hr 3
  have f4 := free_at hr 4
  simp at r0 r1 r2 r3 r4
  clear ho hb hr B1 CC
  go_wp2
  obtain ⟨Z, hZ⟩ : ∃ Z, Z = (((((w2.setCell ⟨w.heap.size, 0, none⟩ (.slice none 0 0)).setCell ⟨w.heap.size, 1, none⟩ (.slice a' n' c')).setCell ⟨w.heap.size, 2, none⟩ (.slice none 0 0)).setCell ⟨w.heap.size, 3, none⟩ (.int .i64 f)).setCell ⟨w.heap.size, 4, none⟩ (.int .i64 0)) := ⟨_, rfl⟩
  rw [← hZ]
  have h2 : Z.heap[w.heap.size]? = some (.cells #[.slice none 0 0, .slice a' n' c', .slice none 0 0, .int .i64 f, .int .i64 0] 27 (0, 0)) := by
    rw [hZ]
    exact heap_set (heap_set (heap_set (heap_set (heap_set HR.out))))
  have e0 := cell_at h2 0
  have e1 := cell_at h2 1
  have e2 := cell_at h2 2
  have e3 := cell_at h2 3
  have e4 := cell_at h2 4
  simp at e0 e1 e2 e3 e4
  have hs : ∀ g, g ≠ w.heap.size → Z.heap[g]? = w2.heap[g]? := fun g hg => by rw [hZ]; simp only [kept_set hg]
  have hO : OwnsI Z w.heap.size (.slice a' n' c') xs := OwnsR.base (OwnsR.same HO.out (fun g hg => hs g (by have := (OwnsR.lt HO.out g hg).1; omega))) (fun g hg => by have := (OwnsR.lt HO.out g hg).1; omega)
  have hb : Below w.heap.size w Z := by
    rw [hZ]
    exact ((((B2.out.below.setCell (p := ⟨w.heap.size, 0, none⟩) (Nat.le_refl _) _).setCell (p := ⟨w.heap.size, 1, none⟩) (Nat.le_refl _) _).setCell (p := ⟨w.heap.size, 2, none⟩) (Nat.le_refl _) _).setCell (p := ⟨w.heap.size, 3, none⟩) (Nat.le_refl _) _).setCell (p := ⟨w.heap.size, 4, none⟩) (Nat.le_refl _) _
  refine bodyPost_ret (by simp [results, Try.results34, go_sem, e0, e1, e2, e3, e4]; try rfl) rfl ?_
  have hfp : fps [.slice none 0 0, .slice a' n' c', .slice none 0 0] = fpOf (.slice a' n' c') := by simp [fps, fpOf, Value.ownBlock]
  refine ⟨_, _, _, rfl, ⟨⟨ownsR_nil _ _ _ _ _, fun _ _ => trivial⟩, .inl hO, ownsR_nil _ _ _ _ _, ?_, fun g hg => ?_⟩, hb⟩
  · rw [hfp, ← fps_one]
    exact fp_nodup _
  · rw [hfp] at hg
    exact OwnsR.lt hO g hg

end Go.Proofs.Ytabejilnpblogaa
