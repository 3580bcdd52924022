/-
  Memories marked, and looked at again, as the laws do it: only blocks of the memory turn.
-/
import Derived.Test.YtogdofdgkhkcaaaRowMem
import Derived.Test.YtogdofdgkhkcaaaHeldCell
import Derived.Test.YtogdofdgkhkcaaaMk
namespace Go.Proofs.Ytogdofdgkhkcaaa
open Go.RowKit

/-- Marked so far, the rest as it was. -/
theorem tail_set {ys xs : List Int} {j : Nat} (y : Int) : (ys ++ xs).set (ys.length + j) y = ys ++ xs.set j y := by
  rw [List.set_append_right _ _ (by omega), Nat.add_sub_cancel_left]
theorem tail_get {ys xs : List Int} {j : Nat} (h : j < xs.length) (h' : ys.length + j < (ys ++ xs).length) : (ys ++ xs)[ys.length + j] = xs[j] := by
  rw [List.getElem_append_right (by omega)]
  congr 1
  omega

set_option maxHeartbeats 800000 in
theorem markIntS_tail (B g N cap cap' o k n : Nat) (ys xs : List Int) (w : World) (ho : o = ys.length) (HN : Hid (n = xs.length)) (hNN : N = (ys ++ xs).length) (hb : k + n ≤ 1000000000) (hown : OwnsI w B (.slice (some ⟨g, 0, none⟩) N cap') (ys ++ xs)) :
    Calls Try.prog 48 #[.slice (some ⟨g, o, none⟩) n cap, .int .i64 (k : Int)] w fun e' w' => e' = .returned (.int .i64 ((k + n : Nat) : Int)) ∧ OwnsI w' B (.slice (some ⟨g, 0, none⟩) N cap') (ys ++ markL mkI lnI k xs) ∧ w.grownBy w' (some g) := by
  have HO : Hid (OwnsI w B (.slice (some ⟨g, 0, none⟩) N cap') (ys ++ markTo mkI lnI k xs 0)) := by rw [markTo_zero]; exact hown
  have HY : Hid (o = ys.length ∧ ∀ j, N = (ys ++ markTo mkI lnI k xs j).length) := ⟨ho, fun j => by rw [hNN, List.length_append, List.length_append, markTo_len]⟩
  clear hown ho hNN
  go_enter Try.func48, Try.ntmps48
  go_wp2
  go_loopw [1, 5] (fun kk i wr => ∃ (j m : Nat), j ≤ n ∧ i = .int .i64 (j : Int) ∧ kk = .int .i64 (m : Int) ∧ Hid (m = k + j) ∧ Hid (OwnsI wr B (.slice (some ⟨g, 0, none⟩) N cap') (ys ++ markTo mkI lnI k xs j)) ∧ Hid (w.grownBy wr (some g)))
    (fun _ i _ => n - (intOf i).toNat)
  case atStart => exact ⟨0, k, Nat.zero_le _, rfl, rfl, rfl, HO, World.grownBy.refl _ _⟩
  case round =>
    obtain ⟨j, m, hj, rfl, rfl, HM, H1, HG⟩ := hrel
    have hm : m ≤ 1000000000 := by have := HM.out; omega
    by_cases hlt : j < n
    · have hj0 : (0 : Int) ≤ (j : Int) := by omega
      have hj1 : (j : Int) < (n : Int) := by omega
      have hjm : j < (markTo mkI lnI k xs j).length := by rw [markTo_len]; have := HN.out; omega
      have hjl : o + j < (ys ++ markTo mkI lnI k xs j).length := by rw [List.length_append, HY.out.1]; omega
      obtain ⟨q, hq⟩ : ∃ q, Hid ((ys ++ markTo mkI lnI k xs j)[o + j] = q) := ⟨_, (rfl : (ys ++ markTo mkI lnI k xs j)[o + j] = (ys ++ markTo mkI lnI k xs j)[o + j])⟩
      have c0 : wr.cell? ⟨g, o + j, none⟩ = some (.int .i64 q) := by
        have := OwnsR.cell inC_len H1.out (HY.out.2 j) (o + j) 0 hjl (by omega)
        rw [hq.out] at this
        simp only [Nat.mul_one, Nat.add_zero] at this
        exact this
      have f0 : wr.frozen? ⟨g, o + j, none⟩ = false := OwnsR.free H1.out (HY.out.2 j) _
      have S1 : Hid (OwnsI (wr.setCell ⟨g, o + j, none⟩ (.int .i64 (m : Int))) B (.slice (some ⟨g, 0, none⟩) N cap') (ys ++ markTo mkI lnI k xs (j + 1))) := by
        have h0 := OwnsR.stored inC_len H1.out (HY.out.2 j) (o + j) 0 hjl (by omega) (m : Int) (.int .i64 (m : Int)) (by simp [inC])
        simp only [Nat.mul_one, Nat.add_zero] at h0
        have h1 : (ys ++ markTo mkI lnI k xs j).set (o + j) (m : Int) = ys ++ markTo mkI lnI k xs (j + 1) := by
          rw [HY.out.1, tail_set, markTo_step mkI lnI k xs j (by have := HN.out; omega) (m : Int) (by rw [lnI_len, mkI, HM.out, List.length_take, Nat.min_eq_left (by have := HN.out; omega)])]
        rw [h1] at h0
        exact h0
      have G1 : Hid (w.grownBy (wr.setCell ⟨g, o + j, none⟩ (.int .i64 (m : Int))) (some g)) := grown_trans HG.out (grown_setCell wr ⟨g, o + j, none⟩ _) (.inr rfl) (.inr rfl)
      clear H1 HG hq hjm hjl
      go_wp2
      go_roundw
      case rel => exact ⟨j + 1, m + 1, by omega, by go_num, by go_num, by show _ = _; have := HM.out; omega, S1, G1⟩
      case measure => simp [intOf]; omega
    · have hjn : Hid (j = n) := (by omega : j = n)
      have HF : Hid (OwnsI wr B (.slice (some ⟨g, 0, none⟩) N cap') (ys ++ markL mkI lnI k xs)) := by
        have := H1.out
        rw [markTo_all mkI lnI k xs j (by have := HN.out; have := hjn.out; omega)] at this
        exact this
      have HE : Hid (m = k + n) := by show _ = _; rw [HM.out, hjn.out]
      go_wp2
      go_ret
      exact ⟨by rw [← HE.out]; rfl, HF.out, HG.out⟩

/-- The tail of a row that the call owns, read. -/
theorem tail_row {w : World} {B H g cap cap' N : Nat} {ys xs : List Int} (h : OwnsI w B (.slice (some ⟨g, 0, none⟩) N cap') (ys ++ xs)) (hN : N = (ys ++ xs).length) (hc : xs.length ≤ cap) (hg : g < H) : RowI w H (.slice (some ⟨g, ys.length, none⟩) xs.length cap) xs := by
  refine ⟨_, _, rfl, hc, .inr ⟨g, ys.length, rfl, hg, fun i hi j hj => ?_⟩⟩
  obtain rfl : j = 0 := by omega
  have := OwnsR.cell inC_len h hN (ys.length + i) 0 (by rw [List.length_append]; omega) (by omega)
  rw [tail_get hi] at this
  simpa using this
theorem OffI.row {w : World} {B H : Nat} {v : Value} {xs : List Int} (h : OffI w B v xs) (hH : ∀ g ∈ fpOf v, g < H) : RowI w H v xs := by
  rcases h with h | ⟨g, cap, cap', ys, _, hc, rfl, h⟩ | ⟨a, rfl, rfl, _⟩
  · exact OwnsR.read inC_len h hH
  · exact tail_row h rfl hc (hH g (by simp [fpOf, Value.ownBlock]))
  · exact ⟨a, 0, rfl, Nat.le_refl _, .inl rfl⟩
theorem OffI.same {w w' : World} {B : Nat} {v : Value} {xs : List Int} (h : OffI w B v xs) (hs : ∀ g ∈ fpOf v, w'.heap[g]? = w.heap[g]?) : OffI w' B v xs := by
  rcases h with h | ⟨g, cap, cap', ys, hc', hc, rfl, h⟩ | ⟨a, rfl, rfl, hf⟩
  · exact .inl (OwnsR.same h hs)
  · exact .inr (.inl ⟨g, cap, cap', ys, hc', hc, rfl, OwnsR.same h (fun x hx => hs x (by simpa [fpOf, Value.ownBlock] using hx))⟩)
  · refine .inr (.inr ⟨a, rfl, rfl, fun g hg => ⟨(hf g hg).1, ?_⟩⟩)
    have h1 := hs g hg
    have h2 := (hf g hg).2
    rcases Nat.lt_or_ge g w'.heap.size with h3 | h3
    · exact h3
    · rw [Array.getElem?_eq_none h3, Array.getElem?_eq_getElem h2] at h1
      cases h1
theorem OffI.lt {w : World} {B : Nat} {v : Value} {xs : List Int} (h : OffI w B v xs) : ∀ g ∈ fpOf v, B ≤ g ∧ g < w.heap.size := by
  rcases h with h | ⟨g, cap, cap', ys, hc', hc, rfl, h⟩ | ⟨a, rfl, rfl, hf⟩
  · exact OwnsR.lt h
  · intro x hx
    exact OwnsR.lt h x (by simpa [fpOf, Value.ownBlock] using hx)
  · exact hf
theorem markIntS_off (B : Nat) (v : Value) (k : Nat) (xs : List Int) (w : World) (hb : k + xs.length ≤ 1000000000) (hown : OffI w B v xs) :
    Calls Try.prog 48 #[v, .int .i64 (k : Int)] w fun e' w' => e' = .returned (.int .i64 ((k + xs.length : Nat) : Int)) ∧ OffI w' B v (markL mkI lnI k xs) ∧ Kept [v] w w' := by
  rcases hown with h | ⟨g, cap, cap', ys, hc', hc, rfl, h⟩ | ⟨a, rfl, rfl, hf⟩
  · refine (markIntS_any B v k xs w hb h).mono ?_
    rintro e' w' ⟨rfl, h1, h2⟩
    exact ⟨rfl, .inl h1, h2⟩
  · refine (markIntS_tail B g _ cap cap' _ k _ ys xs w rfl rfl rfl hb h).mono ?_
    rintro e' w' ⟨rfl, h1, h2⟩
    have hl : (markL mkI lnI k xs).length = xs.length := markL_len mkI lnI xs k
    refine ⟨rfl, .inr (.inl ⟨g, cap, cap', ys, by rw [hl]; exact hc', by rw [hl]; exact hc, by rw [hl], ?_⟩), kept_grown h2 (by simp [fpOf, Value.ownBlock])⟩
    rw [show (ys ++ markL mkI lnI k xs).length = (ys ++ xs).length by rw [List.length_append, List.length_append, hl]]
    exact h1
  · refine (markIntS_none a 0 k w).mono ?_
    rintro e' w' ⟨rfl, rfl⟩
    exact ⟨rfl, .inr (.inr ⟨a, rfl, rfl, hf⟩), Kept.refl _ _⟩

def mkMm (m : Mm) : Mm :=
  { m with cells := markL mkCe lnCe 1 m.cells, input := markL mkI lnI (1 + markN lnCe m.cells) m.input, out := markL mkI lnI (1 + markN lnCe m.cells + m.input.length) m.out }
def lnMm (m : Mm) : Nat := 1 + markN lnCe m.cells + m.input.length + m.out.length
theorem lnCe_len (xs : List Ce) : markN lnCe xs = 2 * xs.length := by
  induction xs with
  | nil => rfl
  | cons x xs ih => rw [markN, ih, lnCe, List.length_cons]; omega
theorem lnMm_le {m : Mm} {c : Nat} (h : szMm m ≤ c) : lnMm m ≤ 1 + 2 * c := by
  unfold lnMm
  unfold szMm at h
  rw [szRowCe_len] at h
  rw [lnCe_len]
  omega

set_option maxRecDepth 100000 in
set_option maxHeartbeats 1600000 in
theorem markMemory_any (B H : Nat) (v0 v1 v2 : Value) (fuel bad : Int) (m : Mm) (w : World) (hO : OwnMm w B H v0 v1 v2 m) (hH : H ≤ w.heap.size) (hl : szMm m ≤ 2000000) :
    Calls Try.prog 49 #[.agg #[v0, v1, v2, .int .i64 fuel, .int .i64 bad], .int .i64 1] w fun e w' => e = .returned (.int .i64 ((lnMm m : Nat) : Int)) ∧ RowMm w' H v0 v1 v2 (mkMm m) ∧ Rim B H w w' := by
  have hln := lnMm_le hl
  have hap : (∀ g ∈ fpOf v0, g ∉ fpOf v1 ∧ g ∉ fpOf v2) ∧ ∀ g ∈ fpOf v1, g ∉ fpOf v2 := by
    have h := hO.nd
    rw [show fps [v0, v1, v2] = fpOf v0 ++ (fpOf v1 ++ fpOf v2) by simp [fps], List.nodup_append, List.nodup_append] at h
    exact ⟨fun g hg => ⟨fun h1 => h.2.2 g hg g (List.mem_append_left _ h1) rfl, fun h1 => h.2.2 g hg g (List.mem_append_right _ h1) rfl⟩, fun g hg h1 => h.2.1.2.2 g hg g h1 rfl⟩
  have hfp : (∀ g ∈ fpOf v0, B ≤ g ∧ g < H) ∧ (∀ g ∈ fpOf v1, B ≤ g ∧ g < H) ∧ ∀ g ∈ fpOf v2, B ≤ g ∧ g < H :=
    ⟨fun g hg => hO.fp g (mem_fps (by simp) hg), fun g hg => hO.fp g (mem_fps (by simp) hg), fun g hg => hO.fp g (mem_fps (by simp) hg)⟩
  have c0 : Hid (∀ W, Below w.heap.size w W → Calls Try.prog 94 #[v0, .int .i64 ((1 : Nat) : Int)] W fun e' w' => e' = .returned (.int .i64 ((1 + markN lnCe m.cells : Nat) : Int)) ∧ CeR.Phys w' B v0 (markL mkCe lnCe 1 m.cells) ∧ Kept [v0] W w') := fun W hW => by
    have := markCellS_any B v0 1 m.cells W (by unfold lnMm at hln; omega) (by omega) (hO.cells.below hW) (by rw [all_flatCe]; exact fp_nodup v0)
    rw [all_flatCe] at this
    exact this
  have c1 : Hid (∀ W, OffI W B v1 m.input → Calls Try.prog 48 #[v1, .int .i64 ((1 + markN lnCe m.cells : Nat) : Int)] W fun e' w' => e' = .returned (.int .i64 ((1 + markN lnCe m.cells + m.input.length : Nat) : Int)) ∧ OffI w' B v1 (markL mkI lnI (1 + markN lnCe m.cells) m.input) ∧ Kept [v1] W w') := fun W hW =>
    markIntS_off B v1 _ m.input W (by unfold lnMm at hln; omega) hW
  have c2 : Hid (∀ W, OffI W B v2 m.out → Calls Try.prog 48 #[v2, .int .i64 ((1 + markN lnCe m.cells + m.input.length : Nat) : Int)] W fun e' w' => e' = .returned (.int .i64 ((1 + markN lnCe m.cells + m.input.length + m.out.length : Nat) : Int)) ∧ OffI w' B v2 (markL mkI lnI (1 + markN lnCe m.cells + m.input.length) m.out) ∧ Kept [v2] W w') := fun W hW =>
    markIntS_off B v2 _ m.out W (by unfold lnMm at hln; omega) hW
  obtain ⟨k1, hk1⟩ : ∃ k, Hid (1 + markN lnCe m.cells = k) := ⟨_, (rfl : 1 + markN lnCe m.cells = _)⟩
  rw [hk1.out] at c0 c1 c2
  obtain ⟨k2, hk2⟩ : ∃ k, Hid (k1 + m.input.length = k) := ⟨_, (rfl : k1 + m.input.length = _)⟩
  rw [hk2.out] at c1 c2
  obtain ⟨k3, hk3⟩ : ∃ k, Hid (k2 + m.out.length = k) := ⟨_, (rfl : k2 + m.out.length = _)⟩
  rw [hk3.out] at c2
  have HK : Hid (lnMm m = k3) := by show _ = _; unfold lnMm; rw [hk1.out, hk2.out, hk3.out]
  have hb : k1 ≤ 10000000 ∧ k2 ≤ 10000000 ∧ k3 ≤ 10000000 := by have := HK.out; have := hk3.out; have := hk2.out; have := hk1.out; omega
  obtain ⟨hb1, hb2, hb3⟩ := hb
  have HP : Hid ((OffI w B v1 m.input ∧ OwnsI w B v2 m.out) ∧ ((∀ g ∈ fpOf v0, B ≤ g ∧ g < H) ∧ (∀ g ∈ fpOf v1, B ≤ g ∧ g < H) ∧ ∀ g ∈ fpOf v2, B ≤ g ∧ g < H) ∧ (∀ g ∈ fpOf v0, g ∉ fpOf v1 ∧ g ∉ fpOf v2) ∧ ∀ g ∈ fpOf v1, g ∉ fpOf v2) := ⟨⟨hO.input, hO.out⟩, hfp, hap⟩
  rw [HK.out]
  clear hO hfp hap hl hln
  go_enter Try.func49, Try.ntmps49
  go_wp2_with fail
  go_at_call 94
  refine Calls.mono (c0.out _ (by go_grown)) ?_
  rintro e w1 ⟨rfl, hc, hk⟩
  have R1 : Hid (Rim B H w w1) := (Rim.of_below ((Below.refl _ _).alloc (Nat.le_refl _) _)).trans (Rim.of_kept hk (fun g hg => by rw [fps_one] at hg; exact HP.out.2.1.1 g hg))
  have hs : ∀ v, (∀ g ∈ fpOf v, B ≤ g ∧ g < H) → (∀ g ∈ fpOf v0, g ∉ fpOf v) → ∀ g ∈ fpOf v, w1.heap[g]? = w.heap[g]? := fun v h1 h2 g hg => by
    have hgw : g < w.heap.size := by have := h1 g hg; omega
    rw [hk.block g (by simp; omega) (fun hm => h2 g (by rw [fps_one] at hm; exact hm) hg)]
    exact Below.heap_alloc w _ _ hgw
  have P1 : Hid (CeR.Phys w1 B v0 (markL mkCe lnCe 1 m.cells) ∧ OffI w1 B v1 m.input ∧ OffI w1 B v2 m.out) := ⟨hc, HP.out.1.1.same (hs v1 HP.out.2.1.2.1 (fun g hg => (HP.out.2.2.1 g hg).1)), (OffI.same (.inl HP.out.1.2) (hs v2 HP.out.2.1.2.2 (fun g hg => (HP.out.2.2.1 g hg).2)))⟩
  have hA := (hk.block w.heap.size (by simp) (fun hm => by rw [fps_one] at hm; have := HP.out.2.1.1 _ hm; omega)).trans (heap_alloc_new _ _)
  have zA : w.heap.size < w1.heap.size := by have := hk.size; simp at this; omega
  have HA : Hid _ := hA
  have q1 : w1.cell? ⟨w.heap.size, 1, none⟩ = some v1 := cell_at hA 1
  clear hk hc c0 hA hs
  go_wp2_with fail
  go_at_call 48
  refine Calls.mono (c1.out _ P1.out.2.1) ?_
  rintro e w2 ⟨rfl, hi, hk⟩
  have R2 : Hid (Rim B H w w2) := R1.out.trans (Rim.of_kept hk (fun g hg => by rw [fps_one] at hg; exact HP.out.2.1.2.1 g hg))
  have hs : ∀ g, g < w1.heap.size → g ∉ fpOf v1 → w2.heap[g]? = w1.heap[g]? := fun g h1 h2 => hk.block g h1 (fun hm => h2 (by rw [fps_one] at hm; exact hm))
  have P2 : Hid (CeR.Phys w2 B v0 (markL mkCe lnCe 1 m.cells) ∧ OffI w2 B v1 (markL mkI lnI k1 m.input) ∧ OffI w2 B v2 m.out) :=
    ⟨P1.out.1.same (fun g hg => hs g (P1.out.1.lt g hg).2 (by rw [all_flatCe, fps_one] at hg; exact (HP.out.2.2.1 g hg).1)), hi, P1.out.2.2.same (fun g hg => hs g (P1.out.2.2.lt g hg).2 (fun hm => HP.out.2.2.2 g hm hg))⟩
  have hA := (hs w.heap.size zA (fun hm => by have := HP.out.2.1.2.1 _ hm; omega)).trans HA.out
  have q2 : w2.cell? ⟨w.heap.size, 2, none⟩ = some v2 := cell_at hA 2
  clear hk hi c1 hs q1 P1 HA hA zA
  go_wp2_with fail
  go_at_call 48
  refine Calls.mono (c2.out _ P2.out.2.2) ?_
  rintro e w3 ⟨rfl, hi, hk⟩
  have R3 : Hid (Rim B H w w3) := R2.out.trans (Rim.of_kept hk (fun g hg => by rw [fps_one] at hg; exact HP.out.2.1.2.2 g hg))
  have hs : ∀ g, g < w2.heap.size → g ∉ fpOf v2 → w3.heap[g]? = w2.heap[g]? := fun g h1 h2 => hk.block g h1 (fun hm => h2 (by rw [fps_one] at hm; exact hm))
  have P3 : Hid (CeR.Phys w3 B v0 (markL mkCe lnCe 1 m.cells) ∧ OffI w3 B v1 (markL mkI lnI k1 m.input) ∧ OffI w3 B v2 (markL mkI lnI k2 m.out)) :=
    ⟨P2.out.1.same (fun g hg => hs g (P2.out.1.lt g hg).2 (by rw [all_flatCe, fps_one] at hg; exact (HP.out.2.2.1 g hg).2)), P2.out.2.1.same (fun g hg => hs g (P2.out.2.1.lt g hg).2 (fun hm => HP.out.2.2.2 g hg hm)), hi⟩
  have HR : Hid (RowMm w3 H v0 v1 v2 (mkMm m)) := by
    have h0 := P3.out.1.read (H := H) (fun g hg => by rw [all_flatCe, fps_one] at hg; exact (HP.out.2.1.1 g hg).2)
    rw [show ∀ ps : List Ce, ps.map CeR.log = ps from List.map_id] at h0
    have h1 := P3.out.2.1.row (H := H) (fun g hg => (HP.out.2.1.2.1 g hg).2)
    have h2 := P3.out.2.2.row (H := H) (fun g hg => (HP.out.2.1.2.2 g hg).2)
    rw [← hk1.out] at h1
    rw [← hk2.out, ← hk1.out] at h2
    exact ⟨h0, h1, h2⟩
  clear hk hi c2 hs q2 P2 P3
  go_wp2
  go_ret
  exact ⟨rfl, HR.out, R3.out⟩

set_option maxRecDepth 100000 in
set_option maxHeartbeats 1600000 in
theorem heldMemory_any (B : Nat) (v0 v1 v2 : Value) (fuel bad : Int) (m : Mm) (w : World) (hB : B ≤ w.heap.size) (hv : RowMm w B v0 v1 v2 (mkMm m)) (hl : szMm m ≤ 2000000) :
    Calls Try.prog 50 #[.agg #[v0, v1, v2, .int .i64 fuel, .int .i64 bad], .int .i64 1] w fun e w' => e = .returned (.int .i64 ((lnMm m : Nat) : Int)) ∧ Below w.heap.size w w' := by
  have hln := lnMm_le hl
  have c0 : Hid (∀ W, Below w.heap.size w W → Calls Try.prog 95 #[v0, .int .i64 ((1 : Nat) : Int)] W fun e' w' => e' = .returned (.int .i64 ((1 + markN lnCe m.cells : Nat) : Int)) ∧ Below W.heap.size W w') := fun W hW =>
    heldCellS_any B v0 1 m.cells W (Nat.le_trans hB hW.size) (by unfold lnMm at hln; omega) (by omega) (hv.1.keep (hW.mono hB))
  have c1 : Hid (∀ W, Below w.heap.size w W → Calls Try.prog 96 #[v1, .int .i64 ((1 + markN lnCe m.cells : Nat) : Int)] W fun e' w' => e' = .returned (.int .i64 ((1 + markN lnCe m.cells + m.input.length : Nat) : Int)) ∧ Below W.heap.size W w') := fun W hW =>
    heldIntS_any B v1 _ m.input W (Nat.le_trans hB hW.size) (by unfold lnMm at hln; omega) (hv.2.1.keep (hW.mono hB))
  have c2 : Hid (∀ W, Below w.heap.size w W → Calls Try.prog 96 #[v2, .int .i64 ((1 + markN lnCe m.cells + m.input.length : Nat) : Int)] W fun e' w' => e' = .returned (.int .i64 ((1 + markN lnCe m.cells + m.input.length + m.out.length : Nat) : Int)) ∧ Below W.heap.size W w') := fun W hW =>
    heldIntS_any B v2 _ m.out W (Nat.le_trans hB hW.size) (by unfold lnMm at hln; omega) (hv.2.2.keep (hW.mono hB))
  obtain ⟨k1, hk1⟩ : ∃ k, Hid (1 + markN lnCe m.cells = k) := ⟨_, (rfl : 1 + markN lnCe m.cells = _)⟩
  rw [hk1.out] at c0 c1 c2
  obtain ⟨k2, hk2⟩ : ∃ k, Hid (k1 + m.input.length = k) := ⟨_, (rfl : k1 + m.input.length = _)⟩
  rw [hk2.out] at c1 c2
  obtain ⟨k3, hk3⟩ : ∃ k, Hid (k2 + m.out.length = k) := ⟨_, (rfl : k2 + m.out.length = _)⟩
  rw [hk3.out] at c2
  have HK : Hid (lnMm m = k3) := by show _ = _; unfold lnMm; rw [hk1.out, hk2.out, hk3.out]
  have hb : (k1 ≤ 10000000 ∧ k2 ≤ 10000000 ∧ k3 ≤ 10000000) ∧ ¬ (k1 : Int) < 0 ∧ ¬ (k2 : Int) < 0 ∧ ¬ (k3 : Int) < 0 := by have := HK.out; have := hk3.out; have := hk2.out; have := hk1.out; omega
  obtain ⟨⟨hb1, hb2, hb3⟩, hn1, hn2, hn3⟩ := hb
  rw [HK.out]
  clear hv hl hln
  go_enter Try.func50, Try.ntmps50
  go_wp2_with fail
  go_at_call 95
  refine Calls.mono (c0.out _ (by go_grown)) ?_
  rintro e w1 ⟨rfl, hb⟩
  have B1 : Hid (Box w (.cells #[v0, v1, v2, .int .i64 fuel, .int .i64 bad] 27) w1) := (Box.first _ _).next hb
  have q1 : w1.cell? ⟨w.heap.size, 1, none⟩ = some v1 := B1.out.cell 1
  clear hb c0
  go_wp2_with fail
  go_at_call 96
  refine Calls.mono (c1.out _ B1.out.below) ?_
  rintro e w2 ⟨rfl, hb⟩
  have B2 : Hid (Box w (.cells #[v0, v1, v2, .int .i64 fuel, .int .i64 bad] 27) w2) := B1.out.next hb
  have q2 : w2.cell? ⟨w.heap.size, 2, none⟩ = some v2 := B2.out.cell 2
  clear hb c1 B1 q1
  go_wp2_with fail
  go_at_call 96
  refine Calls.mono (c2.out _ B2.out.below) ?_
  rintro e w3 ⟨rfl, hb⟩
  have B3 : Hid (Box w (.cells #[v0, v1, v2, .int .i64 fuel, .int .i64 bad] 27) w3) := B2.out.next hb
  clear hb c2 B2 q2
  go_wp2
  go_ret
  exact ⟨rfl, B3.out.below⟩

end Go.Proofs.Ytogdofdgkhkcaaa
