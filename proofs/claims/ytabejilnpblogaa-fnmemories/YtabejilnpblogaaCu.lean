/-
  The cursor that draws, as memory: the bytes that a law is handed, a block of three cells that a call made. No program is named here.
  The model's own drawing, by contracts: what each call answers lies in its range, and that it writes its cursor alone.
  The model's own drawing, further: picks out of a row, one time in so many, long texts. What each call answers lies in its range; it writes its cursor alone.
-/
import Derived.Test.YtabejilnpblogaaKa
import Derived.BigQuiet
import Derived.Deep.QuietTactic
import Derived.Laws.Bits128
import Derived.Test.YtabejilnpblogaaNa
import Derived.Deep.AppendLies
namespace Go.Proofs.Ytabejilnpblogaa
open Go.RowKit

/-- The bytes that a law is handed: n of them, in a block below B, or none. -/
def Code8 (w : World) (B : Nat) (v : Value) (n : Nat) : Prop :=
  ∃ a cap, v = .slice a n cap ∧ (n = 0 ∨ ∃ b off, a = some ⟨b, off, none⟩ ∧ b < B ∧ ∀ i, i < n → ∃ c : Nat, c < 256 ∧ w.cell? ⟨b, off + i, none⟩ = some (.int .u8 (c : Int)))
theorem Code8.kept {w w' : World} {B : Nat} {v : Value} {n : Nat} (h : Code8 w B v n) (hB : B ≤ w.heap.size) {row : Option Nat} (hg : w.grownBy w' row) (hr : ∀ k, row = some k → B ≤ k) : Code8 w' B v n := by
  obtain ⟨a, cap, rfl, h⟩ := h
  refine ⟨a, cap, rfl, h.imp id ?_⟩
  rintro ⟨b, off, rfl, hb, h⟩
  refine ⟨b, off, rfl, hb, fun i hi => ?_⟩
  obtain ⟨c, hc, hw⟩ := h i hi
  exact ⟨c, hc, by rw [hg.cell_far ⟨b, off + i, none⟩ (by show b < _; omega) (fun e => by have := hr b (by rw [← e]); omega)]; exact hw⟩

/-- The cursor's block: the bytes, how many are used up, the number that it mixes. -/
def Cur (w : World) (T : TypeId) (g : Nat) (v : Value) (n : Nat) : Prop := ∃ (i : Nat) (h : Int), i ≤ n ∧ w.heap[g]? = some (.cells #[v, .int .i64 (i : Int), .int .i64 h] T)
theorem Cur.lt {w : World} {T : TypeId} {g : Nat} {v : Value} {n : Nat} (h : Cur w T g v n) : g < w.heap.size := by
  obtain ⟨i, h, _, hh⟩ := h
  rcases Nat.lt_or_ge g w.heap.size with h' | h'
  · exact h'
  · simp [Array.getElem?_eq_none h'] at hh
theorem Cur.kept {w w' : World} {T : TypeId} {g : Nat} {v : Value} {n : Nat} (h : Cur w T g v n) {row : Option Nat} (hg : w.grownBy w' row) (hr : row ≠ some g) : Cur w' T g v n := by
  have hlt := h.lt
  obtain ⟨i, h, hi, hh⟩ := h
  exact ⟨i, h, hi, by rw [hg.block g hlt (fun e => hr e.symm)]; exact hh⟩

theorem cur_cells {w : World} {T : TypeId} {g : Nat} {a b c : Value} (h : w.heap[g]? = some (.cells #[a, b, c] T)) :
    w.cell? ⟨g, 0, none⟩ = some a ∧ w.cell? ⟨g, 1, none⟩ = some b ∧ w.cell? ⟨g, 2, none⟩ = some c ∧ w.frozen? ⟨g, 1, none⟩ = false ∧ w.frozen? ⟨g, 2, none⟩ = false := by
  simp [World.cell?, World.frozen?, h]
theorem cur_set1 {w : World} {T : TypeId} {g : Nat} {a b c : Value} (h : w.heap[g]? = some (.cells #[a, b, c] T)) (x : Value) : (w.setCell ⟨g, 1, none⟩ x).heap[g]? = some (.cells #[a, x, c] T) := by
  simp [World.setCell, Array.getElem?_modify, h]
theorem cur_set2 {w : World} {T : TypeId} {g : Nat} {a b c : Value} (h : w.heap[g]? = some (.cells #[a, b, c] T)) (x : Value) : (w.setCell ⟨g, 2, none⟩ x).heap[g]? = some (.cells #[a, b, x] T) := by
  simp [World.setCell, Array.getElem?_modify, h]

/-- A number under the mask 255. -/
theorem i64_and255 (n : Int) : bits .and .i64 n 255 = n % 256 := by
  have h255 : (BitVec.ofInt 64 255).toNat = 2 ^ 8 - 1 := by decide
  have key : (BitVec.ofInt 64 n &&& BitVec.ofInt 64 255).toNat = (n % ((2 ^ 64 : Nat) : Int)).toNat % 2 ^ 8 := by
    rw [BitVec.toNat_and, BitVec.toNat_ofInt, h255, Nat.and_two_pow_sub_one_eq_mod]
  show IntKind.i64.wrap ((BitVec.ofInt 64 n &&& BitVec.ofInt 64 255).toNat : Nat) = n % 256
  rw [key, IntKind.wrap_i64]
  omega
theorem and255 (a : Int) : ∃ c : Nat, c < 256 ∧ bits .and .i64 a 255 = (c : Int) := ⟨(a % 256).toNat, by omega, by rw [i64_and255]; omega⟩

theorem grown_then_below {w w1 w' : World} {row : Option Nat} (h : w.grownBy w1 row) (hb : Below w.heap.size w1 w') : w.grownBy w' row :=
  ⟨hb.os.trans h.os, hb.tape.trans h.tape, hb.output.trans h.output, Nat.le_trans h.size hb.size, fun k hk hne => (hb.block k hk).trans (h.block k hk hne)⟩
theorem Cur.below {w w' : World} {T : TypeId} {g : Nat} {v : Value} {n B : Nat} (h : Cur w T g v n) (hb : Below B w w') (hg : g < B) : Cur w' T g v n := by
  obtain ⟨i, h, hi, hh⟩ := h
  exact ⟨i, h, hi, by rw [hb.block g hg]; exact hh⟩
/-! ### Rows of numbers -/
def Owns64 (w : World) (B : Nat) (e : TypeId) (v : Value) (xs : List Int) : Prop := w.ownsRow B e 1 v xs.length (xs.map (Value.int .i64))

/-- 'out = append(out, y)', out a row of numbers that the call owns, the number laid in a new block right ahead. -/
theorem append64 {P : Program} {w0 : World} {ops : Array Oper} {rest : List Oper} {o : Oper} {a : Act} {Q : Exit → Act → World → Prop}
    (hgd : o.guard = none) (s x : Operand) (t : TypeId) (ho : o.op = .call { callee := .builtin .append, args := #[s, x], argTypes := #[t, t] })
    (B : Nat) (e : TypeId) (ht : P.underlying t = some (.slice e)) (hi : (P.info? e).map (fun i => (i.zero, i.size, i.bytes)) = some (some (.int .i64 0), 1, 8))
    {v : Value} {xs : List Int} (hown : Owns64 w0 B e v xs) (y : Int) (hs : a.eval s = v) (hx : a.eval x = .slice (some ⟨w0.heap.size, 0, none⟩) 1 1)
    (hlen : xs.length ≤ 1000000) (hB : B ≤ w0.heap.size)
    (h : ∀ v' w', Owns64 w' B e v' (xs ++ [y]) → (∀ W, Below B W w0 → Below B W w') → w0.heap.size ≤ w'.heap.size → wpList P ops Q rest (a.put o.dst v') w') :
    wpList P ops Q (o :: rest) a (w0.alloc (.cells #[.int .i64 y] e)) := by
  obtain ⟨i, hi, hz0, hz1, hz2⟩ := info_parts hi
  refine wpList_append_own _ hgd s x t ho B e i (.int .i64 0) 1 8 ht hi hz0 hz1 hz2 rfl (by decide) v xs.length (xs.map (Value.int .i64)) hs (World.ownsRow.alloc hown _) ⟨w0.heap.size, 0, none⟩ 1 1 [.int .i64 y] hx rfl (one_new_cell w0 _ e) (ones_int _ [y]) (by unfold maxLen; omega) (by omega) (by simp; omega) ?_
  intro v' w' ho' hg _
  refine h v' w' ?_ ?_ ?_
  · unfold Owns64
    rw [List.map_append, List.length_append]
    exact ho'
  · intro W hW
    exact (hW.alloc hB _).grown hg (by simp; omega) (fun k hk => toNat_lt_of_own hown k hk)
  · have := hg.size
    simp at this
    omega

theorem owns_down {w : World} {base base' : Nat} {e : TypeId} {size : Nat} {v : Value} {n : Nat} {xs : List Value} (h : w.ownsRow base e size v n xs) (hb : base' ≤ base) : w.ownsRow base' e size v n xs := by
  refine ⟨h.1, h.2.imp id ?_⟩
  rintro ⟨g, cap, cur, h1, h2, h3⟩
  exact ⟨g, cap, cur, h1, Nat.le_trans hb h2, h3⟩

theorem Code8.up {w : World} {B B' : Nat} {v : Value} {n : Nat} (h : Code8 w B v n) (hb : B ≤ B') : Code8 w B' v n := by
  obtain ⟨a, cap, rfl, h⟩ := h
  refine ⟨a, cap, rfl, h.imp id ?_⟩
  rintro ⟨b, off, rfl, hb', h⟩
  exact ⟨b, off, rfl, by omega, h⟩
theorem below_of_grown {w w' : World} (h : w.grownBy w' none) : Below w.heap.size w w' := ⟨h.os, h.tape, h.output, h.size, fun k hk => h.block k hk (by simp)⟩

/-- A row of numbers that is not empty: where it lies, and what it holds. -/
theorem Owns64.form {w : World} {B : Nat} {e : TypeId} {v : Value} {xs : List Int} (h : Owns64 w B e v xs) (hx : 0 < xs.length) :
    ∃ g cap, v = .slice (some ⟨g, 0, none⟩) xs.length cap ∧ B ≤ g ∧ g < w.heap.size ∧ ∀ i, i < xs.length → w.cell? ⟨g, i, none⟩ = some (.int .i64 (xs.getD i 0)) := by
  have h' := h
  obtain ⟨hl, h2⟩ := h'
  rcases h2 with ⟨rfl, h0⟩ | ⟨g, cap, cur, rfl, hbg, hg, hnc, hcm, hcs, htake⟩
  · omega
  · refine ⟨g, cap, rfl, hbg, ?_, fun i hi => ?_⟩
    · rcases Nat.lt_or_ge g w.heap.size with h' | h'
      · exact h'
      · simp [Array.getElem?_eq_none h'] at hg
    · rw [World.ownsRow.cellAt h i (by omega)]
      simp [List.getD, hi]

/-- A slice of bytes that came in, as its reading opens it. -/
theorem code8_of {w : World} {x : Addr} {l c : Nat} {zs : List Int} (hl : l ≤ c) (hz : zs.length = c) (hcell : ∀ i, i < zs.length → w.cell? (x.add i) = some (.int .u8 (zs.getD i 0))) (hwz : ∀ n ∈ zs, (Lit.int .u8 n).wf = true) :
    Code8 w w.heap.size (.slice (some x) l c) l := by
  refine ⟨some x, c, rfl, ?_⟩
  by_cases h0 : l = 0
  · exact .inl h0
  obtain ⟨b, off, spot⟩ := x
  have hc := hcell 0 (by omega)
  have hspot : spot = none := by simpa [Addr.add] using World.cell?_spot hc
  subst hspot
  have hadd : ∀ i, (⟨b, off, none⟩ : Addr).add i = ⟨b, off + i, none⟩ := fun i => by unfold Addr.add; split <;> simp_all
  refine .inr ⟨b, off, rfl, ?_, fun i hi => ?_⟩
  · rcases Nat.lt_or_ge b w.heap.size with h' | h'
    · exact h'
    · rw [hadd] at hc
      simp [World.cell?, Array.getElem?_eq_none h'] at hc
  · have h1 := hcell i (by omega)
    rw [hadd] at h1
    have h2 := hwz (zs.getD i 0) (by simp [List.getD, show i < zs.length by omega])
    have h3 : 0 ≤ zs.getD i 0 ∧ zs.getD i 0 < 256 := by
      generalize zs.getD i 0 = q at h2
      simp [Lit.wf, IntKind.min, IntKind.max, IntKind.signed, IntKind.bits] at h2
      omega
    exact ⟨(zs.getD i 0).toNat, by omega, by rw [h1]; congr 2; omega⟩

end Go.Proofs.Ytabejilnpblogaa

namespace Go.Proofs.Ytabejilnpblogaa
open Go.RowKit

set_option maxHeartbeats 800000 in
theorem l01Byte_any (B g : Nat) (v : Value) (n : Nat) (w : World) (hB : B ≤ g) (hn : n ≤ 1048576) (hv : Code8 w B v n) (hc : Cur w 92 g v n) :
    Calls Try.prog 42 #[.pointer (some ⟨g, 0, none⟩)] w fun e w' => (∃ x : Nat, x < 256 ∧ e = .returned (.int .i64 (x : Int))) ∧ Cur w' 92 g v n ∧ w.grownBy w' (some g) := by
  have hlt := hc.lt
  obtain ⟨i, h, hi, hh⟩ := hc
  obtain ⟨hc0, hc1, hc2, hf1, hf2⟩ := cur_cells hh
  go_enter Try.func42, Try.ntmps42
  go_wp2_with fail
  generalize wrap64 (wrap64 (h * 6364136223846793005) + 1442695040888963407) = h1
  generalize wrap64 (h * 6364136223846793005) = h0
  have hh1 := cur_set2 hh (.int .i64 h1)
  have G1 : Hid (w.grownBy (w.setCell ⟨g, 2, none⟩ (.int .i64 h1)) (some g)) := grown_setCell w ⟨g, 2, none⟩ (.int .i64 h1)
  have V1 : Hid (Code8 (w.setCell ⟨g, 2, none⟩ (.int .i64 h1)) B v n) := hv.kept (by omega) G1.out (fun k e => by cases e; exact hB)
  generalize w.setCell ⟨g, 2, none⟩ (.int .i64 h1) = w1 at hh1 G1 V1 ⊢
  clear hh hc0 hc1 hc2 hf1 hf2 hv
  obtain ⟨hc0, hc1, hc2, hf1, hf2⟩ := cur_cells hh1
  go_quiet (fail)
  go_wp2_with fail
  obtain ⟨x, hx, hxe⟩ := and255 (bits .xor .i64 (h1 / 8589934592) (h1 / 35184372088832))
  rw [hxe]
  clear hxe
  generalize bits .xor .i64 (h1 / 8589934592) (h1 / 35184372088832) = z0
  obtain ⟨a, cap, rfl, hv2⟩ := V1.out
  clear V1
  have hi0 : (0 : Int) ≤ (i : Int) := by omega
  by_cases hin : i < n
  · rcases hv2 with hv2 | ⟨b, off, rfl, hbB, hv2⟩
    · omega
    obtain ⟨c, hcl, hcc⟩ := hv2 i hin
    clear hv2
    have hin1 : (i : Int) < (n : Int) := by omega
    go_quiet (fail)
    go_wp2_with fail
    go_quiet (fail)
    go_wp2
    obtain ⟨y, hy, hye⟩ := and255 ((x : Int) + (c : Int))
    rw [hye]
    clear hye
    go_ret
    refine ⟨⟨y, hy, rfl⟩, ⟨i + 1, h1, by omega, by simpa using cur_set1 (w := w1.drewN _) hh1 (.int .i64 ((i : Int) + 1))⟩, ?_⟩
    exact G1.out.trans ((World.grownBy.but (grown_drewN w1 _) _).trans (grown_setCell _ _ _))
  · go_quiet (fail)
    go_wp2
    go_ret
    exact ⟨⟨x, hx, rfl⟩, ⟨i, h1, hi, hh1⟩, G1.out.trans ⟨rfl, rfl, rfl, Nat.le_refl _, fun _ _ _ => rfl⟩⟩

theorem l01Below_small (m B g : Nat) (v : Value) (n : Nat) (w : World) (hm0 : 0 < m) (hm : m ≤ 256) (hB : B ≤ g) (hn : n ≤ 1048576) (hv : Code8 w B v n) (hc : Cur w 92 g v n) :
    Calls Try.prog 43 #[.pointer (some ⟨g, 0, none⟩), .int .i64 (m : Int)] w fun e w' => (∃ x : Nat, x < m ∧ e = .returned (.int .i64 (x : Int))) ∧ Cur w' 92 g v n ∧ w.grownBy w' (some g) := by
  have H : Hid (Code8 w B v n ∧ Cur w 92 g v n) := ⟨hv, hc⟩
  clear hv hc
  go_enter Try.func43, Try.ntmps43
  go_wp2_with (go_at_call 42; refine (l01Byte_any B g v n _ hB hn H.out.1 H.out.2).mono ?_; rintro e w1 ⟨⟨x, hx, rfl⟩, hc1, hg1⟩)
  go_ret
  exact ⟨⟨x % m, Nat.mod_lt _ hm0, by simp⟩, hc1, hg1⟩

set_option maxHeartbeats 800000 in
theorem l01Below_big (m B g : Nat) (v : Value) (n : Nat) (w : World) (hm0 : 256 < m) (hm : m ≤ 4294967296) (hB : B ≤ g) (hBw : B ≤ w.heap.size) (hn : n ≤ 1048576) (hv : Code8 w B v n) (hc : Cur w 92 g v n) :
    Calls Try.prog 43 #[.pointer (some ⟨g, 0, none⟩), .int .i64 (m : Int)] w fun e w' => (∃ x : Nat, x < m ∧ e = .returned (.int .i64 (x : Int))) ∧ Cur w' 92 g v n ∧ w.grownBy w' (some g) := by
  have H : Hid (Code8 w B v n ∧ Cur w 92 g v n) := ⟨hv, hc⟩
  have hr : ∀ k, (some g : Option Nat) = some k → B ≤ k := fun k e => by cases e; exact hB
  clear hv hc
  go_enter Try.func43, Try.ntmps43
  go_wp2_with fail
  go_at_call 42
  refine (l01Byte_any B g v n _ hB hn H.out.1 H.out.2).mono ?_
  rintro e w1 ⟨⟨x, hx, rfl⟩, hc1, hg1⟩
  have hv1 := H.out.1.kept hBw hg1 hr
  have hs1 := hg1.size
  clear H
  have H : Hid (Code8 w1 B v n ∧ Cur w1 92 g v n ∧ w.grownBy w1 (some g)) := ⟨hv1, hc1, hg1⟩
  clear hv1 hc1 hg1
  go_wp2_with fail
  go_at_call 42
  refine (l01Byte_any B g v n _ hB hn H.out.1 H.out.2.1).mono ?_
  rintro e w2 ⟨⟨y, hy, rfl⟩, hc2, hg2⟩
  have hv2 := H.out.1.kept (by omega) hg2 hr
  have hs2 := hg2.size
  have K : Hid (Code8 w2 B v n ∧ Cur w2 92 g v n ∧ w.grownBy w2 (some g)) := ⟨hv2, hc2, H.out.2.2.trans hg2⟩
  clear hv2 hc2 hg2 H
  go_wp2_with fail
  go_at_call 42
  refine (l01Byte_any B g v n _ hB hn K.out.1 K.out.2.1).mono ?_
  rintro e w3 ⟨⟨z, hz, rfl⟩, hc3, hg3⟩
  have hv3 := K.out.1.kept (by omega) hg3 hr
  have hs3 := hg3.size
  have L : Hid (Code8 w3 B v n ∧ Cur w3 92 g v n ∧ w.grownBy w3 (some g)) := ⟨hv3, hc3, K.out.2.2.trans hg3⟩
  clear hv3 hc3 hg3 K
  go_wp2_with fail
  go_at_call 42
  refine (l01Byte_any B g v n _ hB hn L.out.1 L.out.2.1).mono ?_
  rintro e w4 ⟨⟨u, hu, rfl⟩, hc4, hg4⟩
  go_wp2
  go_ret
  exact ⟨⟨(x * 16777216 + y * 65536 + z * 256 + u) % m, Nat.mod_lt _ (by omega), by simp⟩, hc4, L.out.2.2.trans hg4⟩

theorem l01Below_any (m B g : Nat) (v : Value) (n : Nat) (w : World) (hm0 : 0 < m) (hm : m ≤ 4294967296) (hB : B ≤ g) (hBw : B ≤ w.heap.size) (hn : n ≤ 1048576) (hv : Code8 w B v n) (hc : Cur w 92 g v n) :
    Calls Try.prog 43 #[.pointer (some ⟨g, 0, none⟩), .int .i64 (m : Int)] w fun e w' => (∃ x : Nat, x < m ∧ e = .returned (.int .i64 (x : Int))) ∧ Cur w' 92 g v n ∧ w.grownBy w' (some g) := by
  by_cases h : m ≤ 256
  · exact l01Below_small m B g v n w hm0 h hB hn hv hc
  · exact l01Below_big m B g v n w (by omega) hm hB hBw hn hv hc

set_option maxHeartbeats 800000 in
theorem l01New_any (B : Nat) (v : Value) (n : Nat) (w : World) (hn : n ≤ 1048576) (hv : Code8 w B v n) :
    Calls Try.prog 41 #[v] w fun e w' => e = .returned (.pointer (some ⟨w.heap.size, 0, none⟩)) ∧ Cur w' 92 w.heap.size v n ∧ w.grownBy w' none := by
  obtain ⟨a, cap, rfl, hv2⟩ := hv
  have V : Hid (n = 0 ∨ ∃ b off, a = some ⟨b, off, none⟩ ∧ b < B ∧ ∀ i, i < n → ∃ c : Nat, c < 256 ∧ w.cell? ⟨b, off + i, none⟩ = some (.int .u8 (c : Int))) := hv2
  clear hv2
  go_enter Try.func41, Try.ntmps41
  go_wp2
  go_loop [3, 4] (fun h i => ∃ (k : Nat) (hh : Int), k ≤ n ∧ i = .int .i64 (k : Int) ∧ h = .int .i64 hh) (fun _ i => n - (intOf i).toNat)
  case atStart => exact ⟨0, _, Nat.zero_le _, rfl, rfl⟩
  case round =>
    obtain ⟨k, hh, hk, rfl, rfl⟩ := hrel
    have hk0 : (0 : Int) ≤ (k : Int) := by omega
    by_cases h1 : k < n
    · have h1' : (k : Int) < (n : Int) := by omega
      by_cases h2 : k < 4000
      · have h2' : (k : Int) < 4000 := by omega
        rcases V.out with hv2 | ⟨b, off, rfl, hbB, hv2⟩
        · omega
        obtain ⟨c, hcl, hcc⟩ := hv2 k h1
        clear hv2
        go_wp2
        go_round
        case rel => exact ⟨k + 1, _, by omega, by go_num, rfl⟩
        case measure => simp [intOf]; omega
      · have h2' : ¬ (k : Int) < 4000 := by omega
        go_wp2
        go_ret
        exact ⟨rfl, ⟨0, hh, Nat.zero_le _, heap_alloc_new w _⟩, World.grownBy_alloc _ _ _⟩
    · go_wp2
      go_ret
      exact ⟨rfl, ⟨0, hh, Nat.zero_le _, heap_alloc_new w _⟩, World.grownBy_alloc _ _ _⟩

theorem Try.info64 : (Try.prog.info? 3).map (fun i => (i.zero, i.size, i.bytes)) = some (some (.int .i64 0), 1, 8) := by kernel_rfl

set_option maxHeartbeats 800000 in
theorem DrawPlaces_any (v : Value) (n : Nat) (w : World) (hn : n ≤ 1048576) (hv : Code8 w w.heap.size v n) :
    Calls Try.prog 8 #[v] w fun e w' => (∃ (o : Value) (ps : List Int), e = .returned o ∧ ps.length = 12 ∧ (∀ p ∈ ps, 0 ≤ p ∧ p < 10000) ∧ Owns64 w' w.heap.size 3 o ps) ∧ w.grownBy w' none := by
  have V : Hid (Code8 w w.heap.size v n) := hv
  clear hv
  go_enter Try.func8, Try.ntmps8
  go_wp2_with fail
  go_at_call 41
  refine (l01New_any w.heap.size v n _ hn V.out).mono ?_
  rintro e w1 ⟨rfl, hc1, hg1⟩
  have hs1 := hg1.size
  have hl1 := hc1.lt
  have H : Hid (Code8 w1 w.heap.size v n ∧ Cur w1 92 w.heap.size v n ∧ w.grownBy w1 none) := ⟨V.out.kept (Nat.le_refl _) hg1 (fun k e => by cases e), hc1, hg1⟩
  clear hc1 hg1
  go_wp2_with fail
  go_at_call 42
  refine (l01Byte_any w.heap.size w.heap.size v n _ (Nat.le_refl _) hn H.out.1 H.out.2.1).mono ?_
  rintro e w2 ⟨⟨x, hx, rfl⟩, hc2, hg2⟩
  have hs2 := hg2.size
  have K : Hid (Code8 w2 w.heap.size v n ∧ Cur w2 92 w.heap.size v n ∧ w.grownBy w2 none) := ⟨H.out.1.kept hs1 hg2 (fun k e => by cases e; exact Nat.le_refl _), hc2, H.out.2.2.andThen hg2 (fun j e => by cases e; exact .inl (Nat.le_refl _))⟩
  clear hc2 hg2 H
  go_wp2
  go_loopw [4, 5] (fun o i wr => ∃ (k : Nat) (xs : List Int), k ≤ 12 ∧ i = .int .i64 (k : Int) ∧ Hid (xs.length = k ∧ ∀ p ∈ xs, 0 ≤ p ∧ p < 10000) ∧ Owns64 wr w2.heap.size 3 o xs ∧ Hid (Cur wr 92 w.heap.size v n ∧ w2.grownBy wr (some w.heap.size)))
    (fun _ i _ => 12 - (intOf i).toNat)
  case atStart => exact ⟨0, [], Nat.zero_le _, rfl, ⟨rfl, by simp⟩, World.ownsRow_made w2 #[] 0 (Nat.le_refl _) (by decide) rfl, ⟨K.out.2.1.kept (World.grownBy_alloc _ _ none) (by simp), World.grownBy_alloc _ _ _⟩⟩
  case round =>
    obtain ⟨k, xs, hk, rfl, HX, hown, HC⟩ := hrel
    have hsz := HC.out.2.size
    have hgl2 : w.heap.size < w2.heap.size := by omega
    have hxl : xs.length ≤ 12 := by have := HX.out.1; omega
    by_cases hlt : k < 12
    · have hk1 : (k : Int) < 12 := by omega
      have HV : Hid (Code8 wr w.heap.size v n) := K.out.1.kept (by omega) HC.out.2 (fun k e => by cases e; exact Nat.le_refl _)
      go_wp2_with fail
      go_at_call 43
      refine (l01Below_any 10000 w.heap.size w.heap.size v n _ (by omega) (by omega) (Nat.le_refl _) (by omega) hn HV.out HC.out.1).mono ?_
      rintro e w3 ⟨⟨y, hy, rfl⟩, hc3, hg3⟩
      have HC1 : Hid (Cur w3 92 w.heap.size v n ∧ w2.grownBy w3 (some w.heap.size)) := ⟨hc3, HC.out.2.trans hg3⟩
      have hown1 := World.ownsRow.kept hown hg3 (own_ne hown hgl2)
      have hsz1 : w2.heap.size ≤ w3.heap.size := HC1.out.2.size
      clear hc3 hg3 HC hown HV
      go_wp2_with (at_builtin; go_must (refine append64 rfl _ _ 25 rfl w2.heap.size 3 Try.underlying25 Try.info64 hown1 (y : Int) rfl rfl (by omega) hsz1 ?_); intro v4 w4 hown4 hb4 _)
      go_roundw
      case rel => exact ⟨k + 1, xs ++ [(y : Int)], by omega, by go_num, ⟨by simp [HX.out.1], fun p hp => by rcases List.mem_append.mp hp with h | h; exact HX.out.2 p h; simp at h; omega⟩, hown4, HC1.out.1.below (hb4 _ (Below.refl _ _)) hgl2, grown_then_below HC1.out.2 (hb4 _ (Below.refl _ _))⟩
      case measure => simp [intOf]; omega
    · have hlen : xs.length = 12 := by have := HX.out.1; omega
      clear hxl
      have HO : Hid (xs.length = 12 ∧ Owns64 wr w2.heap.size 3 u4 xs) := ⟨hlen, hown⟩
      clear hlen hown
      go_wp2
      go_ret
      exact ⟨⟨_, xs, rfl, HO.out.1, HX.out.2, owns_down HO.out.2 (by omega)⟩, K.out.2.2.andThen HC.out.2 (fun j e => by cases e; exact .inl (Nat.le_refl _))⟩

end Go.Proofs.Ytabejilnpblogaa

namespace Go.Proofs.Ytabejilnpblogaa
open Go.RowKit

theorem l01Once_any (m B g : Nat) (v : Value) (n : Nat) (w : World) (hm0 : 0 < m) (hm : m ≤ 4294967296) (hB : B ≤ g) (hBw : B ≤ w.heap.size) (hn : n ≤ 1048576) (hv : Code8 w B v n) (hc : Cur w 92 g v n) :
    Calls Try.prog 83 #[.pointer (some ⟨g, 0, none⟩), .int .i64 (m : Int)] w fun e w' => (∃ b : Bool, e = .returned (.bool b)) ∧ Cur w' 92 g v n ∧ w.grownBy w' (some g) := by
  have H : Hid (Code8 w B v n ∧ Cur w 92 g v n) := ⟨hv, hc⟩
  clear hv hc
  go_enter Try.func83, Try.ntmps83
  go_wp2_with (go_at_call 43; refine (l01Below_any m B g v n _ hm0 hm hB hBw hn H.out.1 H.out.2).mono ?_; rintro e w1 ⟨⟨x, hx, rfl⟩, hc1, hg1⟩)
  go_ret
  exact ⟨⟨_, rfl⟩, hc1, hg1⟩

/-- A row of numbers that was built: K of them, from the block's beginning on. -/
def Ints (w : World) (b K : Nat) : Prop := ∀ i, i < K → ∃ x : Int, w.cell? ⟨b, i, none⟩ = some (.int .i64 x)

theorem l01PickInt_any (K b B g : Nat) (v : Value) (n : Nat) (w : World) (hK0 : 0 < K) (hK : K ≤ 1000000) (hb : b < w.heap.size) (hbg : b ≠ g) (hI : Ints w b K) (hB : B ≤ g) (hBw : B ≤ w.heap.size) (hn : n ≤ 1048576) (hv : Code8 w B v n) (hc : Cur w 92 g v n) :
    Calls Try.prog 56 #[.pointer (some ⟨g, 0, none⟩), .slice (some ⟨b, 0, none⟩) K K] w fun e w' => (∃ (x : Int) (i : Nat), i < K ∧ w.cell? ⟨b, i, none⟩ = some (.int .i64 x) ∧ e = .returned (.int .i64 x)) ∧ Cur w' 92 g v n ∧ w.grownBy w' (some g) := by
  have H : Hid (Code8 w B v n ∧ Cur w 92 g v n ∧ Ints w b K) := ⟨hv, hc, hI⟩
  clear hv hc hI
  go_enter Try.func56, Try.ntmps56
  go_wp2_with fail
  go_at_call 43
  refine (l01Below_any K B g v n _ hK0 (by omega) hB hBw hn H.out.1 H.out.2.1).mono ?_
  rintro e w1 ⟨⟨x, hx, rfl⟩, hc1, hg1⟩
  obtain ⟨y, hy⟩ := H.out.2.2 x hx
  have hy1 : w1.cell? ⟨b, x, none⟩ = some (.int .i64 y) := by rw [hg1.cell_far ⟨b, x, none⟩ hb (fun e => hbg (by simpa using e))]; exact hy
  have hx1 : (x : Int) < (K : Int) := by omega
  have hx0 : (0 : Int) ≤ (x : Int) := by omega
  have HY : Hid (w.cell? ⟨b, x, none⟩ = some (.int .i64 y)) := hy
  clear hy
  go_wp2
  go_ret
  exact ⟨⟨y, x, hx, HY.out, rfl⟩, hc1, hg1⟩

theorem made_zeros8 (m : Nat) : (madeCells (Value.int .u8 0).cells (m * 1)).toList = u8s (List.replicate m 0) := by
  apply List.ext_getElem
  · rw [Array.length_toList, size_madeCells]; simp [u8s]
  · intro i h1 h2
    simp [madeCells, u8s, Value.cells, Nat.mod_one]

/-- What holds of a cursor in a world, from its making on. -/
def Draws (w0 w : World) (T : TypeId) (g : Nat) (v : Value) (n : Nat) : Prop := w0.heap.size ≤ w.heap.size ∧ w0.heap.size ≤ g ∧ Code8 w w0.heap.size v n ∧ Cur w T g v n ∧ w0.grownBy w none
theorem Draws.next {w0 w w' : World} {T : TypeId} {g : Nat} {v : Value} {n : Nat} (h : Draws w0 w T g v n) (hc : Cur w' T g v n) (hg : w.grownBy w' (some g)) : Draws w0 w' T g v n :=
  ⟨Nat.le_trans h.1 hg.size, h.2.1, h.2.2.1.kept h.1 hg (fun k e => by cases e; exact h.2.1), hc, h.2.2.2.2.andThen hg (fun j e => by cases e; exact .inl h.2.1)⟩
theorem Draws.other {w0 w w' : World} {T : TypeId} {g : Nat} {v : Value} {n : Nat} (h : Draws w0 w T g v n) (hg : w.grownBy w' none) : Draws w0 w' T g v n :=
  ⟨Nat.le_trans h.1 hg.size, h.2.1, h.2.2.1.kept h.1 hg (fun k e => by cases e), h.2.2.2.1.kept hg (by simp), h.2.2.2.2.trans hg⟩

theorem Draws.below {w0 w w' : World} {T : TypeId} {g : Nat} {v : Value} {n B : Nat} (h : Draws w0 w T g v n) (hb : Below B w w') (hg : g < B) (hB : w0.heap.size ≤ B) : Draws w0 w' T g v n := by
  refine ⟨Nat.le_trans h.1 hb.size, h.2.1, ?_, h.2.2.2.1.below hb hg, grown_then_below h.2.2.2.2 (hb.mono hB)⟩
  obtain ⟨a, cap, rfl, h2⟩ := h.2.2.1
  refine ⟨a, cap, rfl, h2.imp id ?_⟩
  rintro ⟨b, off, rfl, hb', h3⟩
  refine ⟨b, off, rfl, hb', fun i hi => ?_⟩
  obtain ⟨c, hc, hw⟩ := h3 i hi
  exact ⟨c, hc, by rw [hb.cell (p := ⟨b, off + i, none⟩) (by show b < B; omega)]; exact hw⟩

theorem l01New_draws (v : Value) (n : Nat) (w : World) (hn : n ≤ 1048576) (hv : Code8 w w.heap.size v n) :
    Calls Try.prog 41 #[v] w fun e w' => e = .returned (.pointer (some ⟨w.heap.size, 0, none⟩)) ∧ Hid (Draws w w' 92 w.heap.size v n) :=
  (l01New_any w.heap.size v n w hn hv).mono fun _ _ ⟨h1, h2, h3⟩ => ⟨h1, h3.size, Nat.le_refl _, hv.kept (Nat.le_refl _) h3 (fun k e => by cases e), h2, h3⟩
theorem l01Byte_draws (w0 : World) (g : Nat) (v : Value) (n : Nat) (w : World) (hn : n ≤ 1048576) (h : Hid (Draws w0 w 92 g v n)) :
    Calls Try.prog 42 #[.pointer (some ⟨g, 0, none⟩)] w fun e w' => (∃ x : Nat, x < 256 ∧ e = .returned (.int .i64 (x : Int))) ∧ Hid (Draws w0 w' 92 g v n) :=
  (l01Byte_any w0.heap.size g v n w h.out.2.1 hn h.out.2.2.1 h.out.2.2.2.1).mono fun _ _ ⟨h1, h2, h3⟩ => ⟨h1, h.out.next h2 h3⟩
theorem l01Below_draws (w0 : World) (m g : Nat) (v : Value) (n : Nat) (w : World) (hm0 : 0 < m) (hm : m ≤ 4294967296) (hn : n ≤ 1048576) (h : Hid (Draws w0 w 92 g v n)) :
    Calls Try.prog 43 #[.pointer (some ⟨g, 0, none⟩), .int .i64 (m : Int)] w fun e w' => (∃ x : Nat, x < m ∧ e = .returned (.int .i64 (x : Int))) ∧ Hid (Draws w0 w' 92 g v n) :=
  (l01Below_any m w0.heap.size g v n w hm0 hm h.out.2.1 h.out.1 hn h.out.2.2.1 h.out.2.2.2.1).mono fun _ _ ⟨h1, h2, h3⟩ => ⟨h1, h.out.next h2 h3⟩
theorem l01Below_drawsG (w0 : World) (m g : Nat) (v : Value) (n : Nat) (w : World) (hm0 : 0 < m) (hm : m ≤ 4294967296) (hn : n ≤ 1048576) (h : Hid (Draws w0 w 92 g v n)) :
    Calls Try.prog 43 #[.pointer (some ⟨g, 0, none⟩), .int .i64 (m : Int)] w fun e w' => (∃ x : Nat, x < m ∧ e = .returned (.int .i64 (x : Int))) ∧ Hid (Draws w0 w' 92 g v n ∧ w.grownBy w' (some g)) :=
  (l01Below_any m w0.heap.size g v n w hm0 hm h.out.2.1 h.out.1 hn h.out.2.2.1 h.out.2.2.2.1).mono fun _ _ ⟨h1, h2, h3⟩ => ⟨h1, h.out.next h2 h3, h3⟩
theorem l01Once_draws (w0 : World) (m g : Nat) (v : Value) (n : Nat) (w : World) (hm0 : 0 < m) (hm : m ≤ 4294967296) (hn : n ≤ 1048576) (h : Hid (Draws w0 w 92 g v n)) :
    Calls Try.prog 83 #[.pointer (some ⟨g, 0, none⟩), .int .i64 (m : Int)] w fun e w' => (∃ b : Bool, e = .returned (.bool b)) ∧ Hid (Draws w0 w' 92 g v n) :=
  (l01Once_any m w0.heap.size g v n w hm0 hm h.out.2.1 h.out.1 hn h.out.2.2.1 h.out.2.2.2.1).mono fun _ _ ⟨h1, h2, h3⟩ => ⟨h1, h.out.next h2 h3⟩
theorem l01PickInt_draws (w0 : World) (K b g : Nat) (v : Value) (n : Nat) (w : World) (hK0 : 0 < K) (hK : K ≤ 1000000) (hb : b < w.heap.size) (hbg : b ≠ g) (hI : Ints w b K) (hn : n ≤ 1048576) (h : Hid (Draws w0 w 92 g v n)) :
    Calls Try.prog 56 #[.pointer (some ⟨g, 0, none⟩), .slice (some ⟨b, 0, none⟩) K K] w fun e w' => (∃ (x : Int) (i : Nat), i < K ∧ w.cell? ⟨b, i, none⟩ = some (.int .i64 x) ∧ e = .returned (.int .i64 x)) ∧ Hid (Draws w0 w' 92 g v n ∧ w.grownBy w' (some g)) :=
  (l01PickInt_any K b w0.heap.size g v n w hK0 hK hb hbg hI h.out.2.1 h.out.1 hn h.out.2.2.1 h.out.2.2.2.1).mono fun _ _ ⟨h1, h2, h3⟩ => ⟨h1, h.out.next h2 h3, h3⟩
end Go.Proofs.Ytabejilnpblogaa
