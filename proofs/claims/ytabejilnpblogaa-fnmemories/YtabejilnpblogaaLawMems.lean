/-
  The law of memories: what is fresh is there, what was given away or freed is gone, at whatever is drawn. Written by mkmems.py.
-/
import Derived.Test.YtabejilnpblogaaDrawMm
import Derived.Test.YtabejilnpblogaaPlain44
import Derived.Test.YtabejilnpblogaaEqMem
import Derived.Test.YtabejilnpblogaaImXFresh
import Derived.Test.YtabejilnpblogaaImXLooked
import Derived.Test.YtabejilnpblogaaImXMoved
import Derived.Test.YtabejilnpblogaaImXWritten
import Derived.Test.YtabejilnpblogaaImXFreed
namespace Go.Proofs.Ytabejilnpblogaa
open Go.RowKit

theorem stayM {W W' : World} {b : Nat} {o : Obj} (h : W.heap[b]? = some o) (hb : Below W.heap.size W W') : W'.heap[b]? = some o := by
  rcases Nat.lt_or_ge b W.heap.size with h2 | h2
  · exact (hb.block _ h2).trans h
  · rw [Array.getElem?_eq_none h2] at h; cases h
theorem ltM {W : World} {b : Nat} {o : Obj} (h : W.heap[b]? = some o) : b < W.heap.size := by
  rcases Nat.lt_or_ge b W.heap.size with h2 | h2
  · exact h2
  · rw [Array.getElem?_eq_none h2] at h; cases h

/-- A var that has a memory. -/
structure HasM (p : Nat) (v0 v1 v2 : Value) (f b : Int) (m : Mm) (W : World) : Prop where
  blk : W.heap[p]? = some (.cells #[v0, v1, v2, .int .i64 f, .int .i64 b] 27 (0, 0))
  row : RowMm W W.heap.size v0 v1 v2 m
  nil : nilOk v0 ∧ nilOk v1 ∧ nilOk v2
theorem HasM.next {p : Nat} {v0 v1 v2 : Value} {f b : Int} {m : Mm} {W W' : World} (h : HasM p v0 v1 v2 f b m W) (hb : Below W.heap.size W W') : HasM p v0 v1 v2 f b m W' :=
  ⟨stayM h.blk hb, (h.row.keep hb).up hb.size, h.nil⟩
theorem HasM.made {B : Nat} {v0 v1 v2 : Value} {f b : Int} {m : Mm} {W : World} (h : OwnMm W B W.heap.size v0 v1 v2 m) : HasM W.heap.size v0 v1 v2 f b m (W.alloc (.cells #[v0, v1, v2, .int .i64 f, .int .i64 b] 27 (0, 0))) :=
  ⟨heap_alloc_new _ _, (h.row.keep ((Below.refl _ _).alloc (Nat.le_refl _) _)).up (by simp), h.nils⟩

theorem big_anyM (a : Option Addr) (n cap : Nat) (w : World) :
    Calls Try.prog 6 #[.slice a n cap] w fun e w' => e = .returned (.bool (decide (1048576 < (n : Int)))) ∧ w' = w := by
  go_enter Try.func6, Try.ntmps6
  go_wp2
  go_ret
  exact ⟨rfl, rfl⟩

set_option maxRecDepth 100000 in
set_option maxHeartbeats 6400000 in
theorem lawMems (v : Value) (n : Nat) (w : World) (hv : Code8 w w.heap.size v n) :
    Calls Try.prog 3 #[v] w fun e w' => e = .returned (.bool true) ∧ Below w.heap.size w w' := by
  have V : Hid (Code8 w w.heap.size v n) := hv
  obtain ⟨a, cap, rfl, _⟩ := hv
  by_cases hb : 1048576 < n
  · have hb' : (1048576 : Int) < (n : Int) := by omega
    go_enter Try.func3, Try.ntmps3
    go_wp2_with fail
    go_at_call 6
    refine (big_anyM a n cap _).mono ?_
    rintro e w0 ⟨rfl, rfl⟩
    go_wp2
    go_ret
    exact ⟨rfl, Below.refl _ _⟩
  have hn1 : n ≤ 1048576 := by omega
  have hn' : ¬ (1048576 : Int) < (n : Int) := by omega
  go_enter Try.func3, Try.ntmps3
  go_wp2_with fail
  go_at_call 6
  refine (big_anyM a n cap _).mono ?_
  rintro e w0 ⟨rfl, rfl⟩
  go_wp2_with fail
  go_at_call 7
  refine (DrawMemory_any _ n _ hn1 V.out).mono ?_
  rintro e w1 ⟨m, ma0, mn0, mc0, ma1, mn1, mc1, ma2, mn2, mc2, ⟨hm0, hm9, hms⟩, rfl, h1⟩
  have X3 : Hid (HasM w1.heap.size (.slice ma0 mn0 mc0) (.slice ma1 mn1 mc1) (.slice ma2 mn2 mc2) 9 0 m (w1.alloc (.cells #[.slice ma0 mn0 mc0, .slice ma1 mn1 mc1, .slice ma2 mn2 mc2, .int .i64 9, .int .i64 0] 27 (0, 0)))) := HasM.made h1.out.1
  have V1 : Hid (Code8 (w1.alloc (.cells #[.slice ma0 mn0 mc0, .slice ma1 mn1 mc1, .slice ma2 mn2 mc2, .int .i64 9, .int .i64 0] 27 (0, 0))) (w1.alloc (.cells #[.slice ma0 mn0 mc0, .slice ma1 mn1 mc1, .slice ma2 mn2 mc2, .int .i64 9, .int .i64 0] 27 (0, 0))).heap.size (.slice a n cap) n) := (V.out.kept (Nat.le_refl _) (grown_of_below (h1.out.2.alloc h1.out.2.size _)) (fun k e => by cases e)).up (h1.out.2.alloc h1.out.2.size _).size
  have BL1 : Hid (Below w0.heap.size w0 (w1.alloc (.cells #[.slice ma0 mn0 mc0, .slice ma1 mn1 mc1, .slice ma2 mn2 mc2, .int .i64 9, .int .i64 0] 27 (0, 0)))) := h1.out.2.alloc h1.out.2.size _
  clear h1 V
  go_wp2_with fail
  go_at_call 8
  refine (DrawPlaces_any _ n _ hn1 V1.out).mono ?_
  rintro e w2 ⟨⟨o, ps, rfl, hpl, hps, hpo⟩, hg2⟩
  obtain ⟨go, cap2, rfl, hgo1, hgo2, hgc⟩ := hpo.form (by omega)
  obtain ⟨x, hp0, hxb⟩ : ∃ x : Int, ps.getD 0 0 = x ∧ x ≤ 1000000 ∧ 0 ≤ x := ⟨ps.getD 0 0, rfl, by
    have : ps.getD 0 0 ∈ ps := by
      rw [List.getD_eq_getElem?_getD, List.getElem?_eq_getElem (by omega)]
      exact List.getElem_mem _
    have := hps _ this; omega⟩
  have hq0 := hgc 0 (by omega)
  rw [hp0] at hq0
  rw [hpl]
  have hb2 := below_of_grown hg2
  have X3' : Hid (HasM w1.heap.size (.slice ma0 mn0 mc0) (.slice ma1 mn1 mc1) (.slice ma2 mn2 mc2) 9 0 m w2) := X3.out.next hb2
  have BL2 : Hid (Below w0.heap.size w0 w2) := BL1.out.trans (hb2.mono BL1.out.size)
  clear hpo hgc hps hpl hp0 X3 BL1 V1 hg2 hb2 hgo1 hgo2
  have HM : Hid (m.fuel = 9 ∧ m.bad = 0) := ⟨hm9, hm0⟩
  obtain ⟨A, C, D, E, F, G, L, L1, f0, f1, f2, f3, f4, f5, f6, f7, f8, ⟨hCb, hDb, hFb, hGb⟩, hCl, sA, sC, sE, sF⟩ := mems m x hm0
  have SZ : Hid (szMm m ≤ 1048576 ∧ szMm A ≤ 1048576 ∧ szMm C ≤ 1048576 ∧ szMm E ≤ 1048576 ∧ szMm F ≤ 1048576) := ⟨by omega, by omega, by omega, by omega, by omega⟩
  have FF : Hid (freshM m x = (A, 2, (L : Int)) ∧ lookedM A 2 (L : Int) = (A, x) ∧ movedM A 2 (L : Int) = (C, 2, (L1 : Int)) ∧ lookedM C 2 (L1 : Int) = (C, x) ∧ lookedM C 2 (L : Int) = (D, 0) ∧ writtenM C 4 (L1 : Int) (x + 1) = E ∧ lookedM E 3 (L1 : Int) = (E, x + 1) ∧ freedM E 2 (L1 : Int) = F ∧ lookedM F 2 (L1 : Int) = (G, 0)) := ⟨f0, f1, f2, f3, f4, f5, f6, f7, f8⟩
  have BB : Hid (C.bad = 0 ∧ D.bad = 5 ∧ F.bad = 0 ∧ G.bad = 5) := ⟨hCb, hDb, hFb, hGb⟩
  have HC7 : Hid (m.cells.length ≤ 7) := by have h7 : m.cells.length ≤ szMm m := by unfold szMm; rw [szRowCe_len]; omega
                                            exact Nat.le_trans h7 hms
  have LL : Hid (C.cells.length = m.cells.length + 2) := hCl
  clear f0 f1 f2 f3 f4 f5 f6 f7 f8 hCb hDb hFb hGb hCl sA sC sE sF hms hm0 hm9
  have cFresh : Hid (∀ W za0 zn0 zc0 za1 zn1 zc1 za2 zn2 zc2, RowMm W W.heap.size (.slice za0 zn0 zc0) (.slice za1 zn1 zc1) (.slice za2 zn2 zc2) m → nilOk (.slice za0 zn0 zc0) ∧ nilOk (.slice za1 zn1 zc1) ∧ nilOk (.slice za2 zn2 zc2) → Calls Try.prog 9 #[.agg #[.slice za0 zn0 zc0, .slice za1 zn1 zc1, .slice za2 zn2 zc2, .int .i64 9, .int .i64 0], .int .i64 x] W fun e w' => ∃ ya0 yn0 yc0 ya1 yn1 yc1 ya2 yn2 yc2, e = .returned (.tuple #[.agg #[.slice ya0 yn0 yc0, .slice ya1 yn1 yc1, .slice ya2 yn2 yc2, .int .i64 A.fuel, .int .i64 A.bad], .agg #[.int .i64 2, .int .i64 (L : Int)]]) ∧ Hid (OwnMm w' W.heap.size w'.heap.size (.slice ya0 yn0 yc0) (.slice ya1 yn1 yc1) (.slice ya2 yn2 yc2) A ∧ Below W.heap.size W w')) := fun W _ _ _ _ _ _ _ _ _ h hn => by
    have := implFresh_any W.heap.size m _ _ _ _ _ _ _ _ _ x W (Nat.le_refl _) h hn SZ.out.1
    rw [HM.out.1, HM.out.2] at this
    rw [FF.out.1] at this
    exact this
  have cLook1 : Hid (∀ W za0 zn0 zc0 za1 zn1 zc1 za2 zn2 zc2, RowMm W W.heap.size (.slice za0 zn0 zc0) (.slice za1 zn1 zc1) (.slice za2 zn2 zc2) A → nilOk (.slice za0 zn0 zc0) ∧ nilOk (.slice za1 zn1 zc1) ∧ nilOk (.slice za2 zn2 zc2) → Calls Try.prog 10 #[.agg #[.slice za0 zn0 zc0, .slice za1 zn1 zc1, .slice za2 zn2 zc2, .int .i64 A.fuel, .int .i64 A.bad], .agg #[.int .i64 2, .int .i64 (L : Int)]] W fun e w' => ∃ ya0 yn0 yc0 ya1 yn1 yc1 ya2 yn2 yc2, e = .returned (.tuple #[.agg #[.slice ya0 yn0 yc0, .slice ya1 yn1 yc1, .slice ya2 yn2 yc2, .int .i64 A.fuel, .int .i64 A.bad], .int .i64 x]) ∧ Hid (OwnMm w' W.heap.size w'.heap.size (.slice ya0 yn0 yc0) (.slice ya1 yn1 yc1) (.slice ya2 yn2 yc2) A ∧ Below W.heap.size W w')) := fun W _ _ _ _ _ _ _ _ _ h hn => by
    have := implLooked_any W.heap.size A _ _ _ _ _ _ _ _ _ 2 (L : Int) W (Nat.le_refl _) h hn SZ.out.2.1
    rw [FF.out.2.1] at this
    exact this
  have cMove : Hid (∀ W za0 zn0 zc0 za1 zn1 zc1 za2 zn2 zc2, RowMm W W.heap.size (.slice za0 zn0 zc0) (.slice za1 zn1 zc1) (.slice za2 zn2 zc2) A → nilOk (.slice za0 zn0 zc0) ∧ nilOk (.slice za1 zn1 zc1) ∧ nilOk (.slice za2 zn2 zc2) → Calls Try.prog 11 #[.agg #[.slice za0 zn0 zc0, .slice za1 zn1 zc1, .slice za2 zn2 zc2, .int .i64 A.fuel, .int .i64 A.bad], .agg #[.int .i64 2, .int .i64 (L : Int)]] W fun e w' => ∃ ya0 yn0 yc0 ya1 yn1 yc1 ya2 yn2 yc2, e = .returned (.tuple #[.agg #[.slice ya0 yn0 yc0, .slice ya1 yn1 yc1, .slice ya2 yn2 yc2, .int .i64 C.fuel, .int .i64 0], .agg #[.int .i64 2, .int .i64 (L1 : Int)]]) ∧ Hid (OwnMm w' W.heap.size w'.heap.size (.slice ya0 yn0 yc0) (.slice ya1 yn1 yc1) (.slice ya2 yn2 yc2) C ∧ Below W.heap.size W w')) := fun W _ _ _ _ _ _ _ _ _ h hn => by
    have := implMoved_any W.heap.size A _ _ _ _ _ _ _ _ _ 2 (L : Int) W (Nat.le_refl _) h hn SZ.out.2.1
    rw [FF.out.2.2.1] at this
    rw [BB.out.1] at this
    exact this
  have cLook2 : Hid (∀ W za0 zn0 zc0 za1 zn1 zc1 za2 zn2 zc2, RowMm W W.heap.size (.slice za0 zn0 zc0) (.slice za1 zn1 zc1) (.slice za2 zn2 zc2) C → nilOk (.slice za0 zn0 zc0) ∧ nilOk (.slice za1 zn1 zc1) ∧ nilOk (.slice za2 zn2 zc2) → Calls Try.prog 10 #[.agg #[.slice za0 zn0 zc0, .slice za1 zn1 zc1, .slice za2 zn2 zc2, .int .i64 C.fuel, .int .i64 0], .agg #[.int .i64 2, .int .i64 (L1 : Int)]] W fun e w' => ∃ ya0 yn0 yc0 ya1 yn1 yc1 ya2 yn2 yc2, e = .returned (.tuple #[.agg #[.slice ya0 yn0 yc0, .slice ya1 yn1 yc1, .slice ya2 yn2 yc2, .int .i64 C.fuel, .int .i64 0], .int .i64 x]) ∧ Hid (OwnMm w' W.heap.size w'.heap.size (.slice ya0 yn0 yc0) (.slice ya1 yn1 yc1) (.slice ya2 yn2 yc2) C ∧ Below W.heap.size W w')) := fun W _ _ _ _ _ _ _ _ _ h hn => by
    have := implLooked_any W.heap.size C _ _ _ _ _ _ _ _ _ 2 (L1 : Int) W (Nat.le_refl _) h hn SZ.out.2.2.1
    rw [FF.out.2.2.2.1] at this
    rw [BB.out.1] at this
    exact this
  have cLook3 : Hid (∀ W za0 zn0 zc0 za1 zn1 zc1 za2 zn2 zc2, RowMm W W.heap.size (.slice za0 zn0 zc0) (.slice za1 zn1 zc1) (.slice za2 zn2 zc2) C → nilOk (.slice za0 zn0 zc0) ∧ nilOk (.slice za1 zn1 zc1) ∧ nilOk (.slice za2 zn2 zc2) → Calls Try.prog 10 #[.agg #[.slice za0 zn0 zc0, .slice za1 zn1 zc1, .slice za2 zn2 zc2, .int .i64 C.fuel, .int .i64 0], .agg #[.int .i64 2, .int .i64 (L : Int)]] W fun e w' => ∃ ya0 yn0 yc0 ya1 yn1 yc1 ya2 yn2 yc2, e = .returned (.tuple #[.agg #[.slice ya0 yn0 yc0, .slice ya1 yn1 yc1, .slice ya2 yn2 yc2, .int .i64 D.fuel, .int .i64 5], .int .i64 0]) ∧ Hid (OwnMm w' W.heap.size w'.heap.size (.slice ya0 yn0 yc0) (.slice ya1 yn1 yc1) (.slice ya2 yn2 yc2) D ∧ Below W.heap.size W w')) := fun W _ _ _ _ _ _ _ _ _ h hn => by
    have := implLooked_any W.heap.size C _ _ _ _ _ _ _ _ _ 2 (L : Int) W (Nat.le_refl _) h hn SZ.out.2.2.1
    rw [FF.out.2.2.2.2.1] at this
    rw [BB.out.1, BB.out.2.1] at this
    exact this
  have cWrite : Hid (∀ W za0 zn0 zc0 za1 zn1 zc1 za2 zn2 zc2, RowMm W W.heap.size (.slice za0 zn0 zc0) (.slice za1 zn1 zc1) (.slice za2 zn2 zc2) C → nilOk (.slice za0 zn0 zc0) ∧ nilOk (.slice za1 zn1 zc1) ∧ nilOk (.slice za2 zn2 zc2) → Calls Try.prog 12 #[.agg #[.slice za0 zn0 zc0, .slice za1 zn1 zc1, .slice za2 zn2 zc2, .int .i64 C.fuel, .int .i64 0], .agg #[.int .i64 4, .int .i64 (L1 : Int)], .int .i64 (x + 1)] W fun e w' => ∃ ya0 yn0 yc0 ya1 yn1 yc1 ya2 yn2 yc2, e = .returned (.agg #[.slice ya0 yn0 yc0, .slice ya1 yn1 yc1, .slice ya2 yn2 yc2, .int .i64 E.fuel, .int .i64 E.bad]) ∧ Hid (OwnMm w' W.heap.size w'.heap.size (.slice ya0 yn0 yc0) (.slice ya1 yn1 yc1) (.slice ya2 yn2 yc2) E ∧ Below W.heap.size W w')) := fun W _ _ _ _ _ _ _ _ _ h hn => by
    have := implWritten_any W.heap.size C _ _ _ _ _ _ _ _ _ 4 (L1 : Int) (x + 1) W (Nat.le_refl _) h hn SZ.out.2.2.1
    rw [FF.out.2.2.2.2.2.1] at this
    rw [BB.out.1] at this
    exact this
  have cLook4 : Hid (∀ W za0 zn0 zc0 za1 zn1 zc1 za2 zn2 zc2, RowMm W W.heap.size (.slice za0 zn0 zc0) (.slice za1 zn1 zc1) (.slice za2 zn2 zc2) E → nilOk (.slice za0 zn0 zc0) ∧ nilOk (.slice za1 zn1 zc1) ∧ nilOk (.slice za2 zn2 zc2) → Calls Try.prog 10 #[.agg #[.slice za0 zn0 zc0, .slice za1 zn1 zc1, .slice za2 zn2 zc2, .int .i64 E.fuel, .int .i64 E.bad], .agg #[.int .i64 3, .int .i64 (L1 : Int)]] W fun e w' => ∃ ya0 yn0 yc0 ya1 yn1 yc1 ya2 yn2 yc2, e = .returned (.tuple #[.agg #[.slice ya0 yn0 yc0, .slice ya1 yn1 yc1, .slice ya2 yn2 yc2, .int .i64 E.fuel, .int .i64 E.bad], .int .i64 (x + 1)]) ∧ Hid (OwnMm w' W.heap.size w'.heap.size (.slice ya0 yn0 yc0) (.slice ya1 yn1 yc1) (.slice ya2 yn2 yc2) E ∧ Below W.heap.size W w')) := fun W _ _ _ _ _ _ _ _ _ h hn => by
    have := implLooked_any W.heap.size E _ _ _ _ _ _ _ _ _ 3 (L1 : Int) W (Nat.le_refl _) h hn SZ.out.2.2.2.1
    rw [FF.out.2.2.2.2.2.2.1] at this
    exact this
  have cFree : Hid (∀ W za0 zn0 zc0 za1 zn1 zc1 za2 zn2 zc2, RowMm W W.heap.size (.slice za0 zn0 zc0) (.slice za1 zn1 zc1) (.slice za2 zn2 zc2) E → nilOk (.slice za0 zn0 zc0) ∧ nilOk (.slice za1 zn1 zc1) ∧ nilOk (.slice za2 zn2 zc2) → Calls Try.prog 13 #[.agg #[.slice za0 zn0 zc0, .slice za1 zn1 zc1, .slice za2 zn2 zc2, .int .i64 E.fuel, .int .i64 E.bad], .agg #[.int .i64 2, .int .i64 (L1 : Int)]] W fun e w' => ∃ ya0 yn0 yc0 ya1 yn1 yc1 ya2 yn2 yc2, e = .returned (.agg #[.slice ya0 yn0 yc0, .slice ya1 yn1 yc1, .slice ya2 yn2 yc2, .int .i64 F.fuel, .int .i64 0]) ∧ Hid (OwnMm w' W.heap.size w'.heap.size (.slice ya0 yn0 yc0) (.slice ya1 yn1 yc1) (.slice ya2 yn2 yc2) F ∧ Below W.heap.size W w')) := fun W _ _ _ _ _ _ _ _ _ h hn => by
    have := implFreed_any W.heap.size E _ _ _ _ _ _ _ _ _ 2 (L1 : Int) W (Nat.le_refl _) h hn SZ.out.2.2.2.1
    rw [FF.out.2.2.2.2.2.2.2.1] at this
    rw [BB.out.2.2.1] at this
    exact this
  have cLook5 : Hid (∀ W za0 zn0 zc0 za1 zn1 zc1 za2 zn2 zc2, RowMm W W.heap.size (.slice za0 zn0 zc0) (.slice za1 zn1 zc1) (.slice za2 zn2 zc2) F → nilOk (.slice za0 zn0 zc0) ∧ nilOk (.slice za1 zn1 zc1) ∧ nilOk (.slice za2 zn2 zc2) → Calls Try.prog 10 #[.agg #[.slice za0 zn0 zc0, .slice za1 zn1 zc1, .slice za2 zn2 zc2, .int .i64 F.fuel, .int .i64 0], .agg #[.int .i64 2, .int .i64 (L1 : Int)]] W fun e w' => ∃ ya0 yn0 yc0 ya1 yn1 yc1 ya2 yn2 yc2, e = .returned (.tuple #[.agg #[.slice ya0 yn0 yc0, .slice ya1 yn1 yc1, .slice ya2 yn2 yc2, .int .i64 G.fuel, .int .i64 5], .int .i64 0]) ∧ Hid (OwnMm w' W.heap.size w'.heap.size (.slice ya0 yn0 yc0) (.slice ya1 yn1 yc1) (.slice ya2 yn2 yc2) G ∧ Below W.heap.size W w')) := fun W _ _ _ _ _ _ _ _ _ h hn => by
    have := implLooked_any W.heap.size F _ _ _ _ _ _ _ _ _ 2 (L1 : Int) W (Nat.le_refl _) h hn SZ.out.2.2.2.2
    rw [FF.out.2.2.2.2.2.2.2.2] at this
    rw [BB.out.2.2.1, BB.out.2.2.2] at this
    exact this
  clear SZ FF HM
  -- the first call: what it loads stands at w2
  have s00 := cell_at X3'.out.blk 0
  have s01 := cell_at X3'.out.blk 1
  have s02 := cell_at X3'.out.blk 2
  have s03 := cell_at X3'.out.blk 3
  have s04 := cell_at X3'.out.blk 4
  simp at s00 s01 s02 s03 s04
  have sl0 := ltM X3'.out.blk
  go_wp2_with fail
  go_at_call 9
  refine Calls.mono (cFresh.out _ _ _ _ _ _ _ _ _ _ X3'.out.row X3'.out.nil) ?_
  rintro e w4 ⟨y4a0, y4n0, y4c0, y4a1, y4n1, y4c1, y4a2, y4n2, y4c2, rfl, h⟩
  have X3_4 : Hid (HasM w1.heap.size (.slice ma0 mn0 mc0) (.slice ma1 mn1 mc1) (.slice ma2 mn2 mc2) 9 0 m w4) := X3'.out.next h.out.2
  have BL4 : Hid (Below w0.heap.size w0 w4) := BL2.out.trans (h.out.2.mono BL2.out.size)
  have X5_4 : Hid (HasM w4.heap.size (.slice y4a0 y4n0 y4c0) (.slice y4a1 y4n1 y4c1) (.slice y4a2 y4n2 y4c2) A.fuel A.bad A (w4.alloc (.cells #[.slice y4a0 y4n0 y4c0, .slice y4a1 y4n1 y4c1, .slice y4a2 y4n2 y4c2, .int .i64 A.fuel, .int .i64 A.bad] 27 (0, 0)))) := HasM.made h.out.1
  have sz4 := h.out.2.size
  clear h
  clear s00 s01 s02 s03 s04 sl0 hq0
  clear cFresh
  have X3_4b : Hid (HasM w1.heap.size (.slice ma0 mn0 mc0) (.slice ma1 mn1 mc1) (.slice ma2 mn2 mc2) 9 0 m ((w4.alloc (.cells #[.slice y4a0 y4n0 y4c0, .slice y4a1 y4n1 y4c1, .slice y4a2 y4n2 y4c2, .int .i64 A.fuel, .int .i64 A.bad] 27 (0, 0))).alloc (.cells #[.int .i64 2, .int .i64 (L : Int)] 31 (0, 0)))) := (X3_4.out.next ((Below.refl _ _).alloc (Nat.le_refl _) _)).next ((Below.refl _ _).alloc (Nat.le_refl _) _)
  have X5_4b : Hid (HasM w4.heap.size (.slice y4a0 y4n0 y4c0) (.slice y4a1 y4n1 y4c1) (.slice y4a2 y4n2 y4c2) A.fuel A.bad A ((w4.alloc (.cells #[.slice y4a0 y4n0 y4c0, .slice y4a1 y4n1 y4c1, .slice y4a2 y4n2 y4c2, .int .i64 A.fuel, .int .i64 A.bad] 27 (0, 0))).alloc (.cells #[.int .i64 2, .int .i64 (L : Int)] 31 (0, 0)))) := X5_4.out.next ((Below.refl _ _).alloc (Nat.le_refl _) _)
  have V6_4b : Hid (((w4.alloc (.cells #[.slice y4a0 y4n0 y4c0, .slice y4a1 y4n1 y4c1, .slice y4a2 y4n2 y4c2, .int .i64 A.fuel, .int .i64 A.bad] 27 (0, 0))).alloc (.cells #[.int .i64 2, .int .i64 (L : Int)] 31 (0, 0))).heap[w4.heap.size + 1]? = some (.cells #[.int .i64 2, .int .i64 (L : Int)] 31 (0, 0))) := by
    have := heap_alloc_new (w4.alloc (.cells #[.slice y4a0 y4n0 y4c0, .slice y4a1 y4n1 y4c1, .slice y4a2 y4n2 y4c2, .int .i64 A.fuel, .int .i64 A.bad] 27 (0, 0))) (.cells #[.int .i64 2, .int .i64 (L : Int)] 31 (0, 0))
    rwa [show (w4.alloc (.cells #[.slice y4a0 y4n0 y4c0, .slice y4a1 y4n1 y4c1, .slice y4a2 y4n2 y4c2, .int .i64 A.fuel, .int .i64 A.bad] 27 (0, 0))).heap.size = w4.heap.size + 1 by simp] at this
  have BL4b : Hid (Below w0.heap.size w0 ((w4.alloc (.cells #[.slice y4a0 y4n0 y4c0, .slice y4a1 y4n1 y4c1, .slice y4a2 y4n2 y4c2, .int .i64 A.fuel, .int .i64 A.bad] 27 (0, 0))).alloc (.cells #[.int .i64 2, .int .i64 (L : Int)] 31 (0, 0)))) := (BL4.out.alloc BL4.out.size _).alloc (by have := BL4.out.size; simp; omega) _
  clear BL2 BL4 X3' X3_4 X5_4
  go_wp2_with fail
  go_at_call 10
  refine Calls.mono (cLook1.out _ _ _ _ _ _ _ _ _ _ X5_4b.out.row X5_4b.out.nil) ?_
  rintro e w5 ⟨y5a0, y5n0, y5c0, y5a1, y5n1, y5c1, y5a2, y5n2, y5c2, rfl, h⟩
  have X3_5 : Hid (HasM w1.heap.size (.slice ma0 mn0 mc0) (.slice ma1 mn1 mc1) (.slice ma2 mn2 mc2) 9 0 m w5) := X3_4b.out.next h.out.2
  have V6_5 : Hid (w5.heap[(w4.heap.size + 1)]? = some (.cells #[.int .i64 2, .int .i64 (L : Int)] 31 (0, 0))) := stayM V6_4b.out h.out.2
  have BL5 : Hid (Below w0.heap.size w0 w5) := BL4b.out.trans (h.out.2.mono BL4b.out.size)
  have X7_5 : Hid (HasM w5.heap.size (.slice y5a0 y5n0 y5c0) (.slice y5a1 y5n1 y5c1) (.slice y5a2 y5n2 y5c2) A.fuel A.bad A (w5.alloc (.cells #[.slice y5a0 y5n0 y5c0, .slice y5a1 y5n1 y5c1, .slice y5a2 y5n2 y5c2, .int .i64 A.fuel, .int .i64 A.bad] 27 (0, 0)))) := HasM.made h.out.1
  have sz5 := h.out.2.size
  clear h
  clear cLook1
  have sV60 := cell_at V6_5.out 0
  have sV61 := cell_at V6_5.out 1
  simp at sV60 sV61
  have slV6 := ltM V6_5.out
  have X3_5b : Hid (HasM w1.heap.size (.slice ma0 mn0 mc0) (.slice ma1 mn1 mc1) (.slice ma2 mn2 mc2) 9 0 m (w5.alloc (.cells #[.slice y5a0 y5n0 y5c0, .slice y5a1 y5n1 y5c1, .slice y5a2 y5n2 y5c2, .int .i64 A.fuel, .int .i64 A.bad] 27 (0, 0)))) := X3_5.out.next ((Below.refl _ _).alloc (Nat.le_refl _) _)
  have V6_5b : Hid ((w5.alloc (.cells #[.slice y5a0 y5n0 y5c0, .slice y5a1 y5n1 y5c1, .slice y5a2 y5n2 y5c2, .int .i64 A.fuel, .int .i64 A.bad] 27 (0, 0))).heap[(w4.heap.size + 1)]? = some (.cells #[.int .i64 2, .int .i64 (L : Int)] 31 (0, 0))) := stayM V6_5.out ((Below.refl _ _).alloc (Nat.le_refl _) _)
  have BL5b : Hid (Below w0.heap.size w0 (w5.alloc (.cells #[.slice y5a0 y5n0 y5c0, .slice y5a1 y5n1 y5c1, .slice y5a2 y5n2 y5c2, .int .i64 A.fuel, .int .i64 A.bad] 27 (0, 0)))) := (BL5.out.alloc BL5.out.size _)
  clear BL4b BL5 V6_4b V6_5 X3_4b X3_5 X5_4b
  go_wp2_with fail
  go_at_call 11
  refine Calls.mono (cMove.out _ _ _ _ _ _ _ _ _ _ X7_5.out.row X7_5.out.nil) ?_
  rintro e w6 ⟨y6a0, y6n0, y6c0, y6a1, y6n1, y6c1, y6a2, y6n2, y6c2, rfl, h⟩
  have X3_6 : Hid (HasM w1.heap.size (.slice ma0 mn0 mc0) (.slice ma1 mn1 mc1) (.slice ma2 mn2 mc2) 9 0 m w6) := X3_5b.out.next h.out.2
  have V6_6 : Hid (w6.heap[(w4.heap.size + 1)]? = some (.cells #[.int .i64 2, .int .i64 (L : Int)] 31 (0, 0))) := stayM V6_5b.out h.out.2
  have BL6 : Hid (Below w0.heap.size w0 w6) := BL5b.out.trans (h.out.2.mono BL5b.out.size)
  have X9_6 : Hid (HasM w6.heap.size (.slice y6a0 y6n0 y6c0) (.slice y6a1 y6n1 y6c1) (.slice y6a2 y6n2 y6c2) C.fuel 0 C (w6.alloc (.cells #[.slice y6a0 y6n0 y6c0, .slice y6a1 y6n1 y6c1, .slice y6a2 y6n2 y6c2, .int .i64 C.fuel, .int .i64 0] 27 (0, 0)))) := HasM.made h.out.1
  have sz6 := h.out.2.size
  clear h
  clear sV60 sV61 slV6
  clear cMove
  have X3_6b : Hid (HasM w1.heap.size (.slice ma0 mn0 mc0) (.slice ma1 mn1 mc1) (.slice ma2 mn2 mc2) 9 0 m ((w6.alloc (.cells #[.slice y6a0 y6n0 y6c0, .slice y6a1 y6n1 y6c1, .slice y6a2 y6n2 y6c2, .int .i64 C.fuel, .int .i64 0] 27 (0, 0))).alloc (.cells #[.int .i64 2, .int .i64 (L1 : Int)] 31 (0, 0)))) := (X3_6.out.next ((Below.refl _ _).alloc (Nat.le_refl _) _)).next ((Below.refl _ _).alloc (Nat.le_refl _) _)
  have V6_6b : Hid (((w6.alloc (.cells #[.slice y6a0 y6n0 y6c0, .slice y6a1 y6n1 y6c1, .slice y6a2 y6n2 y6c2, .int .i64 C.fuel, .int .i64 0] 27 (0, 0))).alloc (.cells #[.int .i64 2, .int .i64 (L1 : Int)] 31 (0, 0))).heap[(w4.heap.size + 1)]? = some (.cells #[.int .i64 2, .int .i64 (L : Int)] 31 (0, 0))) := stayM (stayM V6_6.out ((Below.refl _ _).alloc (Nat.le_refl _) _)) ((Below.refl _ _).alloc (Nat.le_refl _) _)
  have X9_6b : Hid (HasM w6.heap.size (.slice y6a0 y6n0 y6c0) (.slice y6a1 y6n1 y6c1) (.slice y6a2 y6n2 y6c2) C.fuel 0 C ((w6.alloc (.cells #[.slice y6a0 y6n0 y6c0, .slice y6a1 y6n1 y6c1, .slice y6a2 y6n2 y6c2, .int .i64 C.fuel, .int .i64 0] 27 (0, 0))).alloc (.cells #[.int .i64 2, .int .i64 (L1 : Int)] 31 (0, 0)))) := X9_6.out.next ((Below.refl _ _).alloc (Nat.le_refl _) _)
  have V10_6b : Hid (((w6.alloc (.cells #[.slice y6a0 y6n0 y6c0, .slice y6a1 y6n1 y6c1, .slice y6a2 y6n2 y6c2, .int .i64 C.fuel, .int .i64 0] 27 (0, 0))).alloc (.cells #[.int .i64 2, .int .i64 (L1 : Int)] 31 (0, 0))).heap[w6.heap.size + 1]? = some (.cells #[.int .i64 2, .int .i64 (L1 : Int)] 31 (0, 0))) := by
    have := heap_alloc_new (w6.alloc (.cells #[.slice y6a0 y6n0 y6c0, .slice y6a1 y6n1 y6c1, .slice y6a2 y6n2 y6c2, .int .i64 C.fuel, .int .i64 0] 27 (0, 0))) (.cells #[.int .i64 2, .int .i64 (L1 : Int)] 31 (0, 0))
    rwa [show (w6.alloc (.cells #[.slice y6a0 y6n0 y6c0, .slice y6a1 y6n1 y6c1, .slice y6a2 y6n2 y6c2, .int .i64 C.fuel, .int .i64 0] 27 (0, 0))).heap.size = w6.heap.size + 1 by simp] at this
  have BL6b : Hid (Below w0.heap.size w0 ((w6.alloc (.cells #[.slice y6a0 y6n0 y6c0, .slice y6a1 y6n1 y6c1, .slice y6a2 y6n2 y6c2, .int .i64 C.fuel, .int .i64 0] 27 (0, 0))).alloc (.cells #[.int .i64 2, .int .i64 (L1 : Int)] 31 (0, 0)))) := (BL6.out.alloc BL6.out.size _).alloc (by have := BL6.out.size; simp; omega) _
  clear BL5b BL6 V6_5b V6_6 X3_5b X3_6 X7_5 X9_6
  go_wp2_with fail
  go_at_call 10
  refine Calls.mono (cLook2.out _ _ _ _ _ _ _ _ _ _ X9_6b.out.row X9_6b.out.nil) ?_
  rintro e w7 ⟨y7a0, y7n0, y7c0, y7a1, y7n1, y7c1, y7a2, y7n2, y7c2, rfl, h⟩
  have X3_7 : Hid (HasM w1.heap.size (.slice ma0 mn0 mc0) (.slice ma1 mn1 mc1) (.slice ma2 mn2 mc2) 9 0 m w7) := X3_6b.out.next h.out.2
  have X9_7 : Hid (HasM w6.heap.size (.slice y6a0 y6n0 y6c0) (.slice y6a1 y6n1 y6c1) (.slice y6a2 y6n2 y6c2) C.fuel 0 C w7) := X9_6b.out.next h.out.2
  have V6_7 : Hid (w7.heap[(w4.heap.size + 1)]? = some (.cells #[.int .i64 2, .int .i64 (L : Int)] 31 (0, 0))) := stayM V6_6b.out h.out.2
  have V10_7 : Hid (w7.heap[(w6.heap.size + 1)]? = some (.cells #[.int .i64 2, .int .i64 (L1 : Int)] 31 (0, 0))) := stayM V10_6b.out h.out.2
  have BL7 : Hid (Below w0.heap.size w0 w7) := BL6b.out.trans (h.out.2.mono BL6b.out.size)
  have X11_7 : Hid (HasM w7.heap.size (.slice y7a0 y7n0 y7c0) (.slice y7a1 y7n1 y7c1) (.slice y7a2 y7n2 y7c2) C.fuel 0 C (w7.alloc (.cells #[.slice y7a0 y7n0 y7c0, .slice y7a1 y7n1 y7c1, .slice y7a2 y7n2 y7c2, .int .i64 C.fuel, .int .i64 0] 27 (0, 0)))) := HasM.made h.out.1
  have sz7 := h.out.2.size
  clear h
  clear cLook2
  have sV60 := cell_at V6_7.out 0
  have sV61 := cell_at V6_7.out 1
  simp at sV60 sV61
  have slV6 := ltM V6_7.out
  have X3_7b : Hid (HasM w1.heap.size (.slice ma0 mn0 mc0) (.slice ma1 mn1 mc1) (.slice ma2 mn2 mc2) 9 0 m (w7.alloc (.cells #[.slice y7a0 y7n0 y7c0, .slice y7a1 y7n1 y7c1, .slice y7a2 y7n2 y7c2, .int .i64 C.fuel, .int .i64 0] 27 (0, 0)))) := X3_7.out.next ((Below.refl _ _).alloc (Nat.le_refl _) _)
  have X9_7b : Hid (HasM w6.heap.size (.slice y6a0 y6n0 y6c0) (.slice y6a1 y6n1 y6c1) (.slice y6a2 y6n2 y6c2) C.fuel 0 C (w7.alloc (.cells #[.slice y7a0 y7n0 y7c0, .slice y7a1 y7n1 y7c1, .slice y7a2 y7n2 y7c2, .int .i64 C.fuel, .int .i64 0] 27 (0, 0)))) := X9_7.out.next ((Below.refl _ _).alloc (Nat.le_refl _) _)
  have V6_7b : Hid ((w7.alloc (.cells #[.slice y7a0 y7n0 y7c0, .slice y7a1 y7n1 y7c1, .slice y7a2 y7n2 y7c2, .int .i64 C.fuel, .int .i64 0] 27 (0, 0))).heap[(w4.heap.size + 1)]? = some (.cells #[.int .i64 2, .int .i64 (L : Int)] 31 (0, 0))) := stayM V6_7.out ((Below.refl _ _).alloc (Nat.le_refl _) _)
  have V10_7b : Hid ((w7.alloc (.cells #[.slice y7a0 y7n0 y7c0, .slice y7a1 y7n1 y7c1, .slice y7a2 y7n2 y7c2, .int .i64 C.fuel, .int .i64 0] 27 (0, 0))).heap[(w6.heap.size + 1)]? = some (.cells #[.int .i64 2, .int .i64 (L1 : Int)] 31 (0, 0))) := stayM V10_7.out ((Below.refl _ _).alloc (Nat.le_refl _) _)
  have BL7b : Hid (Below w0.heap.size w0 (w7.alloc (.cells #[.slice y7a0 y7n0 y7c0, .slice y7a1 y7n1 y7c1, .slice y7a2 y7n2 y7c2, .int .i64 C.fuel, .int .i64 0] 27 (0, 0)))) := (BL7.out.alloc BL7.out.size _)
  clear BL6b BL7 V10_6b V10_7 V6_6b V6_7 X3_6b X3_7 X9_6b X9_7
  go_wp2_with fail
  go_at_call 10
  refine Calls.mono (cLook3.out _ _ _ _ _ _ _ _ _ _ X11_7.out.row X11_7.out.nil) ?_
  rintro e w8 ⟨y8a0, y8n0, y8c0, y8a1, y8n1, y8c1, y8a2, y8n2, y8c2, rfl, h⟩
  have X3_8 : Hid (HasM w1.heap.size (.slice ma0 mn0 mc0) (.slice ma1 mn1 mc1) (.slice ma2 mn2 mc2) 9 0 m w8) := X3_7b.out.next h.out.2
  have X9_8 : Hid (HasM w6.heap.size (.slice y6a0 y6n0 y6c0) (.slice y6a1 y6n1 y6c1) (.slice y6a2 y6n2 y6c2) C.fuel 0 C w8) := X9_7b.out.next h.out.2
  have X11_8 : Hid (HasM w7.heap.size (.slice y7a0 y7n0 y7c0) (.slice y7a1 y7n1 y7c1) (.slice y7a2 y7n2 y7c2) C.fuel 0 C w8) := X11_7.out.next h.out.2
  have V6_8 : Hid (w8.heap[(w4.heap.size + 1)]? = some (.cells #[.int .i64 2, .int .i64 (L : Int)] 31 (0, 0))) := stayM V6_7b.out h.out.2
  have V10_8 : Hid (w8.heap[(w6.heap.size + 1)]? = some (.cells #[.int .i64 2, .int .i64 (L1 : Int)] 31 (0, 0))) := stayM V10_7b.out h.out.2
  have BL8 : Hid (Below w0.heap.size w0 w8) := BL7b.out.trans (h.out.2.mono BL7b.out.size)
  have X13_8 : Hid (HasM w8.heap.size (.slice y8a0 y8n0 y8c0) (.slice y8a1 y8n1 y8c1) (.slice y8a2 y8n2 y8c2) D.fuel 5 D (w8.alloc (.cells #[.slice y8a0 y8n0 y8c0, .slice y8a1 y8n1 y8c1, .slice y8a2 y8n2 y8c2, .int .i64 D.fuel, .int .i64 5] 27 (0, 0)))) := HasM.made h.out.1
  have sz8 := h.out.2.size
  clear h
  clear sV60 sV61 slV6
  have sX110 := cell_at X11_8.out.blk 0
  have sX111 := cell_at X11_8.out.blk 1
  have sX112 := cell_at X11_8.out.blk 2
  have sX113 := cell_at X11_8.out.blk 3
  have sX114 := cell_at X11_8.out.blk 4
  simp at sX110 sX111 sX112 sX113 sX114
  have slX11 := ltM X11_8.out.blk
  have sV60 := cell_at V6_8.out 0
  have sV61 := cell_at V6_8.out 1
  simp at sV60 sV61
  have slV6 := ltM V6_8.out
  have X3_8b : Hid (HasM w1.heap.size (.slice ma0 mn0 mc0) (.slice ma1 mn1 mc1) (.slice ma2 mn2 mc2) 9 0 m (w8.alloc (.cells #[.slice y8a0 y8n0 y8c0, .slice y8a1 y8n1 y8c1, .slice y8a2 y8n2 y8c2, .int .i64 D.fuel, .int .i64 5] 27 (0, 0)))) := X3_8.out.next ((Below.refl _ _).alloc (Nat.le_refl _) _)
  have X9_8b : Hid (HasM w6.heap.size (.slice y6a0 y6n0 y6c0) (.slice y6a1 y6n1 y6c1) (.slice y6a2 y6n2 y6c2) C.fuel 0 C (w8.alloc (.cells #[.slice y8a0 y8n0 y8c0, .slice y8a1 y8n1 y8c1, .slice y8a2 y8n2 y8c2, .int .i64 D.fuel, .int .i64 5] 27 (0, 0)))) := X9_8.out.next ((Below.refl _ _).alloc (Nat.le_refl _) _)
  have X11_8b : Hid (HasM w7.heap.size (.slice y7a0 y7n0 y7c0) (.slice y7a1 y7n1 y7c1) (.slice y7a2 y7n2 y7c2) C.fuel 0 C (w8.alloc (.cells #[.slice y8a0 y8n0 y8c0, .slice y8a1 y8n1 y8c1, .slice y8a2 y8n2 y8c2, .int .i64 D.fuel, .int .i64 5] 27 (0, 0)))) := X11_8.out.next ((Below.refl _ _).alloc (Nat.le_refl _) _)
  have V6_8b : Hid ((w8.alloc (.cells #[.slice y8a0 y8n0 y8c0, .slice y8a1 y8n1 y8c1, .slice y8a2 y8n2 y8c2, .int .i64 D.fuel, .int .i64 5] 27 (0, 0))).heap[(w4.heap.size + 1)]? = some (.cells #[.int .i64 2, .int .i64 (L : Int)] 31 (0, 0))) := stayM V6_8.out ((Below.refl _ _).alloc (Nat.le_refl _) _)
  have V10_8b : Hid ((w8.alloc (.cells #[.slice y8a0 y8n0 y8c0, .slice y8a1 y8n1 y8c1, .slice y8a2 y8n2 y8c2, .int .i64 D.fuel, .int .i64 5] 27 (0, 0))).heap[(w6.heap.size + 1)]? = some (.cells #[.int .i64 2, .int .i64 (L1 : Int)] 31 (0, 0))) := stayM V10_8.out ((Below.refl _ _).alloc (Nat.le_refl _) _)
  have BL8b : Hid (Below w0.heap.size w0 (w8.alloc (.cells #[.slice y8a0 y8n0 y8c0, .slice y8a1 y8n1 y8c1, .slice y8a2 y8n2 y8c2, .int .i64 D.fuel, .int .i64 5] 27 (0, 0)))) := (BL8.out.alloc BL8.out.size _)
  clear BL7b BL8 V10_7b V10_8 V6_7b V6_8 X11_7 X11_8 X3_7b X3_8 X9_7b X9_8
  go_wp2_with fail
  go_at_call 10
  refine Calls.mono (cLook3.out _ _ _ _ _ _ _ _ _ _ X11_8b.out.row X11_8b.out.nil) ?_
  rintro e w9 ⟨y9a0, y9n0, y9c0, y9a1, y9n1, y9c1, y9a2, y9n2, y9c2, rfl, h⟩
  have X3_9 : Hid (HasM w1.heap.size (.slice ma0 mn0 mc0) (.slice ma1 mn1 mc1) (.slice ma2 mn2 mc2) 9 0 m w9) := X3_8b.out.next h.out.2
  have X9_9 : Hid (HasM w6.heap.size (.slice y6a0 y6n0 y6c0) (.slice y6a1 y6n1 y6c1) (.slice y6a2 y6n2 y6c2) C.fuel 0 C w9) := X9_8b.out.next h.out.2
  have X11_9 : Hid (HasM w7.heap.size (.slice y7a0 y7n0 y7c0) (.slice y7a1 y7n1 y7c1) (.slice y7a2 y7n2 y7c2) C.fuel 0 C w9) := X11_8b.out.next h.out.2
  have V10_9 : Hid (w9.heap[(w6.heap.size + 1)]? = some (.cells #[.int .i64 2, .int .i64 (L1 : Int)] 31 (0, 0))) := stayM V10_8b.out h.out.2
  have BL9 : Hid (Below w0.heap.size w0 w9) := BL8b.out.trans (h.out.2.mono BL8b.out.size)
  have X15_9 : Hid (HasM w9.heap.size (.slice y9a0 y9n0 y9c0) (.slice y9a1 y9n1 y9c1) (.slice y9a2 y9n2 y9c2) D.fuel 5 D (w9.alloc (.cells #[.slice y9a0 y9n0 y9c0, .slice y9a1 y9n1 y9c1, .slice y9a2 y9n2 y9c2, .int .i64 D.fuel, .int .i64 5] 27 (0, 0)))) := HasM.made h.out.1
  have sz9 := h.out.2.size
  clear h
  clear sX110 sX111 sX112 sX113 sX114 slX11 sV60 sV61 slV6
  clear cLook3
  have sX110 := cell_at X11_9.out.blk 0
  have sX111 := cell_at X11_9.out.blk 1
  have sX112 := cell_at X11_9.out.blk 2
  have sX113 := cell_at X11_9.out.blk 3
  have sX114 := cell_at X11_9.out.blk 4
  simp at sX110 sX111 sX112 sX113 sX114
  have slX11 := ltM X11_9.out.blk
  have sV100 := cell_at V10_9.out 0
  have sV101 := cell_at V10_9.out 1
  simp at sV100 sV101
  have slV10 := ltM V10_9.out
  have X3_9b : Hid (HasM w1.heap.size (.slice ma0 mn0 mc0) (.slice ma1 mn1 mc1) (.slice ma2 mn2 mc2) 9 0 m (w9.alloc (.cells #[.slice y9a0 y9n0 y9c0, .slice y9a1 y9n1 y9c1, .slice y9a2 y9n2 y9c2, .int .i64 D.fuel, .int .i64 5] 27 (0, 0)))) := X3_9.out.next ((Below.refl _ _).alloc (Nat.le_refl _) _)
  have X9_9b : Hid (HasM w6.heap.size (.slice y6a0 y6n0 y6c0) (.slice y6a1 y6n1 y6c1) (.slice y6a2 y6n2 y6c2) C.fuel 0 C (w9.alloc (.cells #[.slice y9a0 y9n0 y9c0, .slice y9a1 y9n1 y9c1, .slice y9a2 y9n2 y9c2, .int .i64 D.fuel, .int .i64 5] 27 (0, 0)))) := X9_9.out.next ((Below.refl _ _).alloc (Nat.le_refl _) _)
  have X11_9b : Hid (HasM w7.heap.size (.slice y7a0 y7n0 y7c0) (.slice y7a1 y7n1 y7c1) (.slice y7a2 y7n2 y7c2) C.fuel 0 C (w9.alloc (.cells #[.slice y9a0 y9n0 y9c0, .slice y9a1 y9n1 y9c1, .slice y9a2 y9n2 y9c2, .int .i64 D.fuel, .int .i64 5] 27 (0, 0)))) := X11_9.out.next ((Below.refl _ _).alloc (Nat.le_refl _) _)
  have V10_9b : Hid ((w9.alloc (.cells #[.slice y9a0 y9n0 y9c0, .slice y9a1 y9n1 y9c1, .slice y9a2 y9n2 y9c2, .int .i64 D.fuel, .int .i64 5] 27 (0, 0))).heap[(w6.heap.size + 1)]? = some (.cells #[.int .i64 2, .int .i64 (L1 : Int)] 31 (0, 0))) := stayM V10_9.out ((Below.refl _ _).alloc (Nat.le_refl _) _)
  have BL9b : Hid (Below w0.heap.size w0 (w9.alloc (.cells #[.slice y9a0 y9n0 y9c0, .slice y9a1 y9n1 y9c1, .slice y9a2 y9n2 y9c2, .int .i64 D.fuel, .int .i64 5] 27 (0, 0)))) := (BL9.out.alloc BL9.out.size _)
  clear BL8b BL9 V10_8b V10_9 V6_8b X11_8b X11_9 X13_8 X3_8b X3_9 X9_8b X9_9
  go_wp2_with fail
  go_at_call 12
  refine Calls.mono (cWrite.out _ _ _ _ _ _ _ _ _ _ X11_9b.out.row X11_9b.out.nil) ?_
  rintro e w10 ⟨y10a0, y10n0, y10c0, y10a1, y10n1, y10c1, y10a2, y10n2, y10c2, rfl, h⟩
  have X3_10 : Hid (HasM w1.heap.size (.slice ma0 mn0 mc0) (.slice ma1 mn1 mc1) (.slice ma2 mn2 mc2) 9 0 m w10) := X3_9b.out.next h.out.2
  have X9_10 : Hid (HasM w6.heap.size (.slice y6a0 y6n0 y6c0) (.slice y6a1 y6n1 y6c1) (.slice y6a2 y6n2 y6c2) C.fuel 0 C w10) := X9_9b.out.next h.out.2
  have X11_10 : Hid (HasM w7.heap.size (.slice y7a0 y7n0 y7c0) (.slice y7a1 y7n1 y7c1) (.slice y7a2 y7n2 y7c2) C.fuel 0 C w10) := X11_9b.out.next h.out.2
  have X15_10 : Hid (HasM w9.heap.size (.slice y9a0 y9n0 y9c0) (.slice y9a1 y9n1 y9c1) (.slice y9a2 y9n2 y9c2) D.fuel 5 D w10) := X15_9.out.next h.out.2
  have V10_10 : Hid (w10.heap[(w6.heap.size + 1)]? = some (.cells #[.int .i64 2, .int .i64 (L1 : Int)] 31 (0, 0))) := stayM V10_9b.out h.out.2
  have BL10 : Hid (Below w0.heap.size w0 w10) := BL9b.out.trans (h.out.2.mono BL9b.out.size)
  have X17_10 : Hid (HasM w10.heap.size (.slice y10a0 y10n0 y10c0) (.slice y10a1 y10n1 y10c1) (.slice y10a2 y10n2 y10c2) E.fuel E.bad E (w10.alloc (.cells #[.slice y10a0 y10n0 y10c0, .slice y10a1 y10n1 y10c1, .slice y10a2 y10n2 y10c2, .int .i64 E.fuel, .int .i64 E.bad] 27 (0, 0)))) := HasM.made h.out.1
  have sz10 := h.out.2.size
  clear h
  clear sX110 sX111 sX112 sX113 sX114 slX11 sV100 sV101 slV10
  clear cWrite
  have sV100 := cell_at V10_10.out 0
  have sV101 := cell_at V10_10.out 1
  simp at sV100 sV101
  have slV10 := ltM V10_10.out
  have X3_10b : Hid (HasM w1.heap.size (.slice ma0 mn0 mc0) (.slice ma1 mn1 mc1) (.slice ma2 mn2 mc2) 9 0 m (w10.alloc (.cells #[.slice y10a0 y10n0 y10c0, .slice y10a1 y10n1 y10c1, .slice y10a2 y10n2 y10c2, .int .i64 E.fuel, .int .i64 E.bad] 27 (0, 0)))) := X3_10.out.next ((Below.refl _ _).alloc (Nat.le_refl _) _)
  have X9_10b : Hid (HasM w6.heap.size (.slice y6a0 y6n0 y6c0) (.slice y6a1 y6n1 y6c1) (.slice y6a2 y6n2 y6c2) C.fuel 0 C (w10.alloc (.cells #[.slice y10a0 y10n0 y10c0, .slice y10a1 y10n1 y10c1, .slice y10a2 y10n2 y10c2, .int .i64 E.fuel, .int .i64 E.bad] 27 (0, 0)))) := X9_10.out.next ((Below.refl _ _).alloc (Nat.le_refl _) _)
  have X11_10b : Hid (HasM w7.heap.size (.slice y7a0 y7n0 y7c0) (.slice y7a1 y7n1 y7c1) (.slice y7a2 y7n2 y7c2) C.fuel 0 C (w10.alloc (.cells #[.slice y10a0 y10n0 y10c0, .slice y10a1 y10n1 y10c1, .slice y10a2 y10n2 y10c2, .int .i64 E.fuel, .int .i64 E.bad] 27 (0, 0)))) := X11_10.out.next ((Below.refl _ _).alloc (Nat.le_refl _) _)
  have X15_10b : Hid (HasM w9.heap.size (.slice y9a0 y9n0 y9c0) (.slice y9a1 y9n1 y9c1) (.slice y9a2 y9n2 y9c2) D.fuel 5 D (w10.alloc (.cells #[.slice y10a0 y10n0 y10c0, .slice y10a1 y10n1 y10c1, .slice y10a2 y10n2 y10c2, .int .i64 E.fuel, .int .i64 E.bad] 27 (0, 0)))) := X15_10.out.next ((Below.refl _ _).alloc (Nat.le_refl _) _)
  have V10_10b : Hid ((w10.alloc (.cells #[.slice y10a0 y10n0 y10c0, .slice y10a1 y10n1 y10c1, .slice y10a2 y10n2 y10c2, .int .i64 E.fuel, .int .i64 E.bad] 27 (0, 0))).heap[(w6.heap.size + 1)]? = some (.cells #[.int .i64 2, .int .i64 (L1 : Int)] 31 (0, 0))) := stayM V10_10.out ((Below.refl _ _).alloc (Nat.le_refl _) _)
  have BL10b : Hid (Below w0.heap.size w0 (w10.alloc (.cells #[.slice y10a0 y10n0 y10c0, .slice y10a1 y10n1 y10c1, .slice y10a2 y10n2 y10c2, .int .i64 E.fuel, .int .i64 E.bad] 27 (0, 0)))) := (BL10.out.alloc BL10.out.size _)
  clear BL10 BL9b V10_10 V10_9b X11_10 X11_9b X15_10 X15_9 X3_10 X3_9b X9_10 X9_9b
  go_wp2_with fail
  go_at_call 10
  refine Calls.mono (cLook4.out _ _ _ _ _ _ _ _ _ _ X17_10.out.row X17_10.out.nil) ?_
  rintro e w11 ⟨y11a0, y11n0, y11c0, y11a1, y11n1, y11c1, y11a2, y11n2, y11c2, rfl, h⟩
  have X3_11 : Hid (HasM w1.heap.size (.slice ma0 mn0 mc0) (.slice ma1 mn1 mc1) (.slice ma2 mn2 mc2) 9 0 m w11) := X3_10b.out.next h.out.2
  have X9_11 : Hid (HasM w6.heap.size (.slice y6a0 y6n0 y6c0) (.slice y6a1 y6n1 y6c1) (.slice y6a2 y6n2 y6c2) C.fuel 0 C w11) := X9_10b.out.next h.out.2
  have X11_11 : Hid (HasM w7.heap.size (.slice y7a0 y7n0 y7c0) (.slice y7a1 y7n1 y7c1) (.slice y7a2 y7n2 y7c2) C.fuel 0 C w11) := X11_10b.out.next h.out.2
  have X15_11 : Hid (HasM w9.heap.size (.slice y9a0 y9n0 y9c0) (.slice y9a1 y9n1 y9c1) (.slice y9a2 y9n2 y9c2) D.fuel 5 D w11) := X15_10b.out.next h.out.2
  have X17_11 : Hid (HasM w10.heap.size (.slice y10a0 y10n0 y10c0) (.slice y10a1 y10n1 y10c1) (.slice y10a2 y10n2 y10c2) E.fuel E.bad E w11) := X17_10.out.next h.out.2
  have V10_11 : Hid (w11.heap[(w6.heap.size + 1)]? = some (.cells #[.int .i64 2, .int .i64 (L1 : Int)] 31 (0, 0))) := stayM V10_10b.out h.out.2
  have BL11 : Hid (Below w0.heap.size w0 w11) := BL10b.out.trans (h.out.2.mono BL10b.out.size)
  have X18_11 : Hid (HasM w11.heap.size (.slice y11a0 y11n0 y11c0) (.slice y11a1 y11n1 y11c1) (.slice y11a2 y11n2 y11c2) E.fuel E.bad E (w11.alloc (.cells #[.slice y11a0 y11n0 y11c0, .slice y11a1 y11n1 y11c1, .slice y11a2 y11n2 y11c2, .int .i64 E.fuel, .int .i64 E.bad] 27 (0, 0)))) := HasM.made h.out.1
  have sz11 := h.out.2.size
  clear h
  clear sV100 sV101 slV10
  clear cLook4
  have sX170 := cell_at X17_11.out.blk 0
  have sX171 := cell_at X17_11.out.blk 1
  have sX172 := cell_at X17_11.out.blk 2
  have sX173 := cell_at X17_11.out.blk 3
  have sX174 := cell_at X17_11.out.blk 4
  simp at sX170 sX171 sX172 sX173 sX174
  have slX17 := ltM X17_11.out.blk
  have sV100 := cell_at V10_11.out 0
  have sV101 := cell_at V10_11.out 1
  simp at sV100 sV101
  have slV10 := ltM V10_11.out
  have X3_11b : Hid (HasM w1.heap.size (.slice ma0 mn0 mc0) (.slice ma1 mn1 mc1) (.slice ma2 mn2 mc2) 9 0 m (w11.alloc (.cells #[.slice y11a0 y11n0 y11c0, .slice y11a1 y11n1 y11c1, .slice y11a2 y11n2 y11c2, .int .i64 E.fuel, .int .i64 E.bad] 27 (0, 0)))) := X3_11.out.next ((Below.refl _ _).alloc (Nat.le_refl _) _)
  have X9_11b : Hid (HasM w6.heap.size (.slice y6a0 y6n0 y6c0) (.slice y6a1 y6n1 y6c1) (.slice y6a2 y6n2 y6c2) C.fuel 0 C (w11.alloc (.cells #[.slice y11a0 y11n0 y11c0, .slice y11a1 y11n1 y11c1, .slice y11a2 y11n2 y11c2, .int .i64 E.fuel, .int .i64 E.bad] 27 (0, 0)))) := X9_11.out.next ((Below.refl _ _).alloc (Nat.le_refl _) _)
  have X11_11b : Hid (HasM w7.heap.size (.slice y7a0 y7n0 y7c0) (.slice y7a1 y7n1 y7c1) (.slice y7a2 y7n2 y7c2) C.fuel 0 C (w11.alloc (.cells #[.slice y11a0 y11n0 y11c0, .slice y11a1 y11n1 y11c1, .slice y11a2 y11n2 y11c2, .int .i64 E.fuel, .int .i64 E.bad] 27 (0, 0)))) := X11_11.out.next ((Below.refl _ _).alloc (Nat.le_refl _) _)
  have X15_11b : Hid (HasM w9.heap.size (.slice y9a0 y9n0 y9c0) (.slice y9a1 y9n1 y9c1) (.slice y9a2 y9n2 y9c2) D.fuel 5 D (w11.alloc (.cells #[.slice y11a0 y11n0 y11c0, .slice y11a1 y11n1 y11c1, .slice y11a2 y11n2 y11c2, .int .i64 E.fuel, .int .i64 E.bad] 27 (0, 0)))) := X15_11.out.next ((Below.refl _ _).alloc (Nat.le_refl _) _)
  have X17_11b : Hid (HasM w10.heap.size (.slice y10a0 y10n0 y10c0) (.slice y10a1 y10n1 y10c1) (.slice y10a2 y10n2 y10c2) E.fuel E.bad E (w11.alloc (.cells #[.slice y11a0 y11n0 y11c0, .slice y11a1 y11n1 y11c1, .slice y11a2 y11n2 y11c2, .int .i64 E.fuel, .int .i64 E.bad] 27 (0, 0)))) := X17_11.out.next ((Below.refl _ _).alloc (Nat.le_refl _) _)
  have V10_11b : Hid ((w11.alloc (.cells #[.slice y11a0 y11n0 y11c0, .slice y11a1 y11n1 y11c1, .slice y11a2 y11n2 y11c2, .int .i64 E.fuel, .int .i64 E.bad] 27 (0, 0))).heap[(w6.heap.size + 1)]? = some (.cells #[.int .i64 2, .int .i64 (L1 : Int)] 31 (0, 0))) := stayM V10_11.out ((Below.refl _ _).alloc (Nat.le_refl _) _)
  have BL11b : Hid (Below w0.heap.size w0 (w11.alloc (.cells #[.slice y11a0 y11n0 y11c0, .slice y11a1 y11n1 y11c1, .slice y11a2 y11n2 y11c2, .int .i64 E.fuel, .int .i64 E.bad] 27 (0, 0)))) := (BL11.out.alloc BL11.out.size _)
  clear BL10b BL11 V10_10b V10_11 X11_10b X11_11 X15_10b X15_11 X17_10 X17_11 X3_10b X3_11 X9_10b X9_11
  go_wp2_with fail
  go_at_call 13
  refine Calls.mono (cFree.out _ _ _ _ _ _ _ _ _ _ X17_11b.out.row X17_11b.out.nil) ?_
  rintro e w12 ⟨y12a0, y12n0, y12c0, y12a1, y12n1, y12c1, y12a2, y12n2, y12c2, rfl, h⟩
  have X3_12 : Hid (HasM w1.heap.size (.slice ma0 mn0 mc0) (.slice ma1 mn1 mc1) (.slice ma2 mn2 mc2) 9 0 m w12) := X3_11b.out.next h.out.2
  have X9_12 : Hid (HasM w6.heap.size (.slice y6a0 y6n0 y6c0) (.slice y6a1 y6n1 y6c1) (.slice y6a2 y6n2 y6c2) C.fuel 0 C w12) := X9_11b.out.next h.out.2
  have X11_12 : Hid (HasM w7.heap.size (.slice y7a0 y7n0 y7c0) (.slice y7a1 y7n1 y7c1) (.slice y7a2 y7n2 y7c2) C.fuel 0 C w12) := X11_11b.out.next h.out.2
  have X15_12 : Hid (HasM w9.heap.size (.slice y9a0 y9n0 y9c0) (.slice y9a1 y9n1 y9c1) (.slice y9a2 y9n2 y9c2) D.fuel 5 D w12) := X15_11b.out.next h.out.2
  have V10_12 : Hid (w12.heap[(w6.heap.size + 1)]? = some (.cells #[.int .i64 2, .int .i64 (L1 : Int)] 31 (0, 0))) := stayM V10_11b.out h.out.2
  have BL12 : Hid (Below w0.heap.size w0 w12) := BL11b.out.trans (h.out.2.mono BL11b.out.size)
  have X20_12 : Hid (HasM w12.heap.size (.slice y12a0 y12n0 y12c0) (.slice y12a1 y12n1 y12c1) (.slice y12a2 y12n2 y12c2) F.fuel 0 F (w12.alloc (.cells #[.slice y12a0 y12n0 y12c0, .slice y12a1 y12n1 y12c1, .slice y12a2 y12n2 y12c2, .int .i64 F.fuel, .int .i64 0] 27 (0, 0)))) := HasM.made h.out.1
  have sz12 := h.out.2.size
  clear h
  clear sX170 sX171 sX172 sX173 sX174 slX17 sV100 sV101 slV10
  clear cFree
  have sV100 := cell_at V10_12.out 0
  have sV101 := cell_at V10_12.out 1
  simp at sV100 sV101
  have slV10 := ltM V10_12.out
  have X3_12b : Hid (HasM w1.heap.size (.slice ma0 mn0 mc0) (.slice ma1 mn1 mc1) (.slice ma2 mn2 mc2) 9 0 m (w12.alloc (.cells #[.slice y12a0 y12n0 y12c0, .slice y12a1 y12n1 y12c1, .slice y12a2 y12n2 y12c2, .int .i64 F.fuel, .int .i64 0] 27 (0, 0)))) := X3_12.out.next ((Below.refl _ _).alloc (Nat.le_refl _) _)
  have X9_12b : Hid (HasM w6.heap.size (.slice y6a0 y6n0 y6c0) (.slice y6a1 y6n1 y6c1) (.slice y6a2 y6n2 y6c2) C.fuel 0 C (w12.alloc (.cells #[.slice y12a0 y12n0 y12c0, .slice y12a1 y12n1 y12c1, .slice y12a2 y12n2 y12c2, .int .i64 F.fuel, .int .i64 0] 27 (0, 0)))) := X9_12.out.next ((Below.refl _ _).alloc (Nat.le_refl _) _)
  have X11_12b : Hid (HasM w7.heap.size (.slice y7a0 y7n0 y7c0) (.slice y7a1 y7n1 y7c1) (.slice y7a2 y7n2 y7c2) C.fuel 0 C (w12.alloc (.cells #[.slice y12a0 y12n0 y12c0, .slice y12a1 y12n1 y12c1, .slice y12a2 y12n2 y12c2, .int .i64 F.fuel, .int .i64 0] 27 (0, 0)))) := X11_12.out.next ((Below.refl _ _).alloc (Nat.le_refl _) _)
  have X15_12b : Hid (HasM w9.heap.size (.slice y9a0 y9n0 y9c0) (.slice y9a1 y9n1 y9c1) (.slice y9a2 y9n2 y9c2) D.fuel 5 D (w12.alloc (.cells #[.slice y12a0 y12n0 y12c0, .slice y12a1 y12n1 y12c1, .slice y12a2 y12n2 y12c2, .int .i64 F.fuel, .int .i64 0] 27 (0, 0)))) := X15_12.out.next ((Below.refl _ _).alloc (Nat.le_refl _) _)
  have V10_12b : Hid ((w12.alloc (.cells #[.slice y12a0 y12n0 y12c0, .slice y12a1 y12n1 y12c1, .slice y12a2 y12n2 y12c2, .int .i64 F.fuel, .int .i64 0] 27 (0, 0))).heap[(w6.heap.size + 1)]? = some (.cells #[.int .i64 2, .int .i64 (L1 : Int)] 31 (0, 0))) := stayM V10_12.out ((Below.refl _ _).alloc (Nat.le_refl _) _)
  have BL12b : Hid (Below w0.heap.size w0 (w12.alloc (.cells #[.slice y12a0 y12n0 y12c0, .slice y12a1 y12n1 y12c1, .slice y12a2 y12n2 y12c2, .int .i64 F.fuel, .int .i64 0] 27 (0, 0)))) := (BL12.out.alloc BL12.out.size _)
  clear BL11b BL12 V10_11b V10_12 X11_11b X11_12 X15_11b X15_12 X17_11b X18_11 X3_11b X3_12 X9_11b X9_12
  go_wp2_with fail
  go_at_call 10
  refine Calls.mono (cLook5.out _ _ _ _ _ _ _ _ _ _ X20_12.out.row X20_12.out.nil) ?_
  rintro e w13 ⟨y13a0, y13n0, y13c0, y13a1, y13n1, y13c1, y13a2, y13n2, y13c2, rfl, h⟩
  have X3_13 : Hid (HasM w1.heap.size (.slice ma0 mn0 mc0) (.slice ma1 mn1 mc1) (.slice ma2 mn2 mc2) 9 0 m w13) := X3_12b.out.next h.out.2
  have X9_13 : Hid (HasM w6.heap.size (.slice y6a0 y6n0 y6c0) (.slice y6a1 y6n1 y6c1) (.slice y6a2 y6n2 y6c2) C.fuel 0 C w13) := X9_12b.out.next h.out.2
  have X11_13 : Hid (HasM w7.heap.size (.slice y7a0 y7n0 y7c0) (.slice y7a1 y7n1 y7c1) (.slice y7a2 y7n2 y7c2) C.fuel 0 C w13) := X11_12b.out.next h.out.2
  have X15_13 : Hid (HasM w9.heap.size (.slice y9a0 y9n0 y9c0) (.slice y9a1 y9n1 y9c1) (.slice y9a2 y9n2 y9c2) D.fuel 5 D w13) := X15_12b.out.next h.out.2
  have X20_13 : Hid (HasM w12.heap.size (.slice y12a0 y12n0 y12c0) (.slice y12a1 y12n1 y12c1) (.slice y12a2 y12n2 y12c2) F.fuel 0 F w13) := X20_12.out.next h.out.2
  have BL13 : Hid (Below w0.heap.size w0 w13) := BL12b.out.trans (h.out.2.mono BL12b.out.size)
  have X21_13 : Hid (HasM w13.heap.size (.slice y13a0 y13n0 y13c0) (.slice y13a1 y13n1 y13c1) (.slice y13a2 y13n2 y13c2) G.fuel 5 G (w13.alloc (.cells #[.slice y13a0 y13n0 y13c0, .slice y13a1 y13n1 y13c1, .slice y13a2 y13n2 y13c2, .int .i64 G.fuel, .int .i64 5] 27 (0, 0)))) := HasM.made h.out.1
  have sz13 := h.out.2.size
  clear h
  clear sV100 sV101 slV10
  clear cLook5
  have sX30 := cell_at X3_13.out.blk 0
  have sX31 := cell_at X3_13.out.blk 1
  have sX32 := cell_at X3_13.out.blk 2
  have sX33 := cell_at X3_13.out.blk 3
  have sX34 := cell_at X3_13.out.blk 4
  simp at sX30 sX31 sX32 sX33 sX34
  have slX3 := ltM X3_13.out.blk
  have sX90 := cell_at X9_13.out.blk 0
  have sX91 := cell_at X9_13.out.blk 1
  have sX92 := cell_at X9_13.out.blk 2
  have sX93 := cell_at X9_13.out.blk 3
  have sX94 := cell_at X9_13.out.blk 4
  simp at sX90 sX91 sX92 sX93 sX94
  have slX9 := ltM X9_13.out.blk
  have sX110 := cell_at X11_13.out.blk 0
  have sX111 := cell_at X11_13.out.blk 1
  have sX112 := cell_at X11_13.out.blk 2
  have sX113 := cell_at X11_13.out.blk 3
  have sX114 := cell_at X11_13.out.blk 4
  simp at sX110 sX111 sX112 sX113 sX114
  have slX11 := ltM X11_13.out.blk
  have sX150 := cell_at X15_13.out.blk 0
  have sX151 := cell_at X15_13.out.blk 1
  have sX152 := cell_at X15_13.out.blk 2
  have sX153 := cell_at X15_13.out.blk 3
  have sX154 := cell_at X15_13.out.blk 4
  simp at sX150 sX151 sX152 sX153 sX154
  have slX15 := ltM X15_13.out.blk
  have sX200 := cell_at X20_13.out.blk 0
  have sX201 := cell_at X20_13.out.blk 1
  have sX202 := cell_at X20_13.out.blk 2
  have sX203 := cell_at X20_13.out.blk 3
  have sX204 := cell_at X20_13.out.blk 4
  simp at sX200 sX201 sX202 sX203 sX204
  have slX20 := ltM X20_13.out.blk
  have X3_13b : Hid (HasM w1.heap.size (.slice ma0 mn0 mc0) (.slice ma1 mn1 mc1) (.slice ma2 mn2 mc2) 9 0 m (w13.alloc (.cells #[.slice y13a0 y13n0 y13c0, .slice y13a1 y13n1 y13c1, .slice y13a2 y13n2 y13c2, .int .i64 G.fuel, .int .i64 5] 27 (0, 0)))) := X3_13.out.next ((Below.refl _ _).alloc (Nat.le_refl _) _)
  have X9_13b : Hid (HasM w6.heap.size (.slice y6a0 y6n0 y6c0) (.slice y6a1 y6n1 y6c1) (.slice y6a2 y6n2 y6c2) C.fuel 0 C (w13.alloc (.cells #[.slice y13a0 y13n0 y13c0, .slice y13a1 y13n1 y13c1, .slice y13a2 y13n2 y13c2, .int .i64 G.fuel, .int .i64 5] 27 (0, 0)))) := X9_13.out.next ((Below.refl _ _).alloc (Nat.le_refl _) _)
  have X11_13b : Hid (HasM w7.heap.size (.slice y7a0 y7n0 y7c0) (.slice y7a1 y7n1 y7c1) (.slice y7a2 y7n2 y7c2) C.fuel 0 C (w13.alloc (.cells #[.slice y13a0 y13n0 y13c0, .slice y13a1 y13n1 y13c1, .slice y13a2 y13n2 y13c2, .int .i64 G.fuel, .int .i64 5] 27 (0, 0)))) := X11_13.out.next ((Below.refl _ _).alloc (Nat.le_refl _) _)
  have X15_13b : Hid (HasM w9.heap.size (.slice y9a0 y9n0 y9c0) (.slice y9a1 y9n1 y9c1) (.slice y9a2 y9n2 y9c2) D.fuel 5 D (w13.alloc (.cells #[.slice y13a0 y13n0 y13c0, .slice y13a1 y13n1 y13c1, .slice y13a2 y13n2 y13c2, .int .i64 G.fuel, .int .i64 5] 27 (0, 0)))) := X15_13.out.next ((Below.refl _ _).alloc (Nat.le_refl _) _)
  have X20_13b : Hid (HasM w12.heap.size (.slice y12a0 y12n0 y12c0) (.slice y12a1 y12n1 y12c1) (.slice y12a2 y12n2 y12c2) F.fuel 0 F (w13.alloc (.cells #[.slice y13a0 y13n0 y13c0, .slice y13a1 y13n1 y13c1, .slice y13a2 y13n2 y13c2, .int .i64 G.fuel, .int .i64 5] 27 (0, 0)))) := X20_13.out.next ((Below.refl _ _).alloc (Nat.le_refl _) _)
  have BL13b : Hid (Below w0.heap.size w0 (w13.alloc (.cells #[.slice y13a0 y13n0 y13c0, .slice y13a1 y13n1 y13c1, .slice y13a2 y13n2 y13c2, .int .i64 G.fuel, .int .i64 5] 27 (0, 0)))) := (BL13.out.alloc BL13.out.size _)
  have hn3 : mn0 = m.cells.length := (RowR.cap (CeR.rowR X3_13b.out.row.1)).1.symm
  have hn9 : y6n0 = C.cells.length := (RowR.cap (CeR.rowR X9_13b.out.row.1)).1.symm
  rw [LL.out, ← hn3] at hn9
  subst hn9
  clear BL12b BL13 V10_12b X11_12b X11_13 X11_13b X15_12b X15_13 X15_13b X20_12 X20_13 X20_13b X21_13 X3_12b X3_13 X3_13b X9_12b X9_13 X9_13b
  have hcc : mn0 ≤ 7 := by rw [hn3]; exact HC7.out
  clear hn3 HC7 LL BB
  go_wp2
  go_ret
  exact ⟨rfl, BL13b.out⟩

end Go.Proofs.Ytabejilnpblogaa
