/-
  Chapter 4: how often each node is a kid, in the model and in the program.
-/
import Derived.Test.YtccelfjlffoiiaaDeepI
import Derived.Test.YtccelfjlffoiiaaPlain18
namespace Go.Proofs.Ytccelfjlffoiiaa
open Go.RowKit

theorem cnt_more (l ks : List Int) (s : Nat) (h : s < ks.length) (c : Int) (hc : ks[s] = c) : l ++ ks.take s ++ [c] = l ++ ks.take (s + 1) := by
  rw [List.take_succ_eq_append_getElem h, hc, List.append_assoc]

set_option maxRecDepth 100000 in
set_option maxHeartbeats 6400000 in
theorem l04Used_any (va : Option Addr) (N cap : Nat) (ns : List Nd) (w : World) (hR : NdR.Row w w.heap.size (.slice va N cap) ns) (hN : Hid (ns.length = N)) (hl : szRow szNd ns ≤ 1048576) (hk : ∀ t, (ht : t < ns.length) → ∀ c ∈ ns[t].kids, 0 ≤ c ∧ c < (N : Int)) :
    Calls Try.prog 47 #[.slice va N cap] w fun e w' => (∃ g, e = .returned (.slice (some ⟨g, 0, none⟩) N N) ∧ OwnsI w' w.heap.size (.slice (some ⟨g, 0, none⟩) N N) (cnt (allKids ns) N)) ∧ Below w.heap.size w w' := by
  have hNl : N ≤ 1048576 := by have := len_szRow szNd ns; have := hN.out; omega
  have HR : Hid (NdR.Row w w.heap.size (.slice va N cap) ns) := hR
  have HL : Hid (szRow szNd ns ≤ 1048576) := hl
  have HC : Hid (∀ t, (ht : t < ns.length) → ∀ c ∈ ns[t].kids, 0 ≤ c ∧ c < (N : Int)) := hk
  clear hR hl hk
  obtain ⟨i0, hi, hz0, hz1, hz2⟩ := info_parts Try.infoInt
  go_enter Try.func47, Try.ntmps47
  go_wp2_with (at_make; refine wpList_make_full _ rfl _ _ 43 rfl w.heap.size 3 i0 _ 1 Try.underlying43 hi hz0 hz1 _ _ _ _ N rfl rfl (by omega) (by omega) (by rw [hz2]; omega) (by unfold maxLen; omega) (Nat.le_refl _) ?_; intro w0 hown0 hg0)
  clear hi hz0 hz1 hz2
  go_loopw [4] (fun i wr => ∃ t : Nat, t ≤ N ∧ i = .int .i64 (t : Int) ∧ Hid (OwnsI wr w.heap.size (.slice (some ⟨w.heap.size, 0, none⟩) N N) (cnt (allKids (ns.take t)) N)) ∧ Below w.heap.size w wr) (fun i _ => N - (intOf i).toNat)
  case atStart =>
    refine ⟨0, Nat.zero_le _, rfl, ?_, (Below.refl _ _).grown hg0 (Nat.le_refl _) (fun k hk => by cases hk)⟩
    show OwnsI _ _ _ _
    unfold OwnsI OwnsR
    rw [List.take_zero, show allKids [] = [] from rfl, cnt_nil, List.length_replicate, ← zero_ints]
    exact hown0
  case round =>
    obtain ⟨t, ht, rfl, HO, hbw⟩ := hrel
    clear hown0 hg0
    by_cases hlt : t < N
    · have ht2 : (t : Int) < (N : Int) := by omega
      have ht0 : (0 : Int) ≤ (t : Int) := by omega
      have htl : t < ns.length := by rw [hN.out]; omega
      obtain ⟨b, off, ka, kc, rfl, hb, c0, c1, c2, c3, hK⟩ := RowNd.at HR.out t htl
      obtain ⟨q, hq⟩ : ∃ q, Hid (ns[t] = q) := ⟨_, (rfl : ns[t] = ns[t])⟩
      have hPL : Hid (∀ s, (allKids (ns.take t) ++ q.kids.take s).length ≤ 1048576) := fun s => by rw [← hq.out]; exact Nat.le_trans (pre_len ns t s htl) HL.out
      have hKC : Hid (∀ c ∈ q.kids, 0 ≤ c ∧ c < (N : Int)) := by rw [← hq.out]; exact HC.out t htl
      have hNX : Hid (allKids (ns.take (t + 1)) = allKids (ns.take t) ++ q.kids) := by rw [← hq.out]; exact allKids_take ns t htl
      rw [hq.out] at c0 c1 c2 c3 hK
      obtain ⟨kd, nm, tx, ks⟩ := q
      simp only at c0 c1 c2 c3 hK hPL hKC hNX
      obtain ⟨L0, hL0⟩ : ∃ L0, Hid (allKids (ns.take t) = L0) := ⟨_, (rfl : allKids (ns.take t) = allKids (ns.take t))⟩
      rw [hL0.out] at hPL HO hNX
      obtain ⟨K, HK⟩ : ∃ K, Hid (ks.length = K) := ⟨_, (rfl : ks.length = ks.length)⟩
      have hKl : K ≤ 1048576 := by
        have h1 := hPL.out ks.length
        rw [List.take_length, List.length_append, HK.out] at h1
        omega
      rw [HK.out] at c3 hK
      have HI : Hid (RowI w w.heap.size (.slice ka K kc) ks) := hK
      have d0 := (hbw.cell (p := ⟨b, off + t * 4, none⟩) hb).trans c0
      have d1 := (hbw.cell (p := ⟨b, off + t * 4 + 1, none⟩) hb).trans c1
      have d2 := (hbw.cell (p := ⟨b, off + t * 4 + 2, none⟩) hb).trans c2
      have d3 := (hbw.cell (p := ⟨b, off + t * 4 + 3, none⟩) hb).trans c3
      have hsz := hbw.size
      clear c0 c1 c2 d0 d1 d2 hK
      go_wp2_with fail
      go_loopw [5] (fun j wj => ∃ s : Nat, s ≤ K ∧ j = .int .i64 (s : Int) ∧ Hid (OwnsI wj w.heap.size (.slice (some ⟨w.heap.size, 0, none⟩) N N) (cnt (L0 ++ ks.take s) N) ∧ Below w.heap.size w wj)) (fun j _ => K - (intOf j).toNat)
      case atStart =>
        refine ⟨0, Nat.zero_le _, rfl, ?_⟩
        show _ ∧ _
        rw [List.take_zero, List.append_nil]
        exact ⟨HO.out, hbw⟩
      case round =>
        obtain ⟨s, hs, rfl, HJ⟩ := hrel
        clear hbw d3 HO
        have e3 := (HJ.out.2.cell (p := ⟨b, off + t * 4 + 3, none⟩) hb).trans c3
        by_cases hsl : s < K
        · have hs0 : (0 : Int) ≤ (s : Int) := by omega
          have hs1 : (s : Int) < (K : Int) := by omega
          have hskl : s < ks.length := by have := HK.out; omega
          obtain ⟨kb, ko, rfl, hkb, e0⟩ := HI.out.at s hskl
          obtain ⟨c, hc⟩ : ∃ c, Hid (ks[s] = c) := ⟨_, (rfl : ks[s] = ks[s])⟩
          have f0 := (HJ.out.2.cell (p := ⟨kb, ko + s, none⟩) hkb).trans e0
          rw [hc.out] at f0
          have hcb : 0 ≤ c ∧ c < (N : Int) := hKC.out c (by rw [← hc.out]; exact List.getElem_mem hskl)
          obtain ⟨cn, rfl⟩ : ∃ cn : Nat, c = (cn : Int) := ⟨c.toNat, by omega⟩
          have hc0 : (0 : Int) ≤ (cn : Int) := by omega
          have hc1 : (cn : Int) < (N : Int) := hcb.2
          have hcn : cn < N := by omega
          obtain ⟨y, hy⟩ : ∃ y, Hid ((cnt (L0 ++ ks.take s) N)[cn]'(by rw [cnt_len]; exact hcn) = y) := ⟨_, (rfl : (cnt (L0 ++ ks.take s) N)[cn]'(by rw [cnt_len]; exact hcn) = _)⟩
          have hyb := cnt_bound (L0 ++ ks.take s) N cn hcn
          rw [hy.out] at hyb
          have hy0 := hyb.1
          have hy1 : y ≤ 1048576 := by have := hPL.out s; omega
          have g1 := OwnsI.cellAt HJ.out.1 (cnt_len _ N).symm cn (by rw [cnt_len]; exact hcn) y hy.out
          have g2 := OwnsI.freeAt HJ.out.1 (cnt_len _ N).symm cn
          have SJ : Hid (OwnsI (wr.setCell ⟨w.heap.size, cn, none⟩ (.int .i64 (y + 1))) w.heap.size (.slice (some ⟨w.heap.size, 0, none⟩) N N) (cnt (L0 ++ ks.take (s + 1)) N) ∧ Below w.heap.size w (wr.setCell ⟨w.heap.size, cn, none⟩ (.int .i64 (y + 1)))) := by
            have := OwnsI.set HJ.out.1 (cnt_len _ N).symm cn (by rw [cnt_len]; exact hcn) (y + 1)
            rw [cnt_step _ N cn hcn y hy.out, cnt_more L0 ks s hskl _ hc.out] at this
            exact ⟨this, HJ.out.2.setCell (p := ⟨w.heap.size, cn, none⟩) (Nat.le_refl _) _⟩
          clear e0 hcb hyb
          go_wp2
          go_roundw
          case rel => exact ⟨s + 1, by omega, by go_num, SJ⟩
          case measure => simp [intOf]; omega
        · have HsK : Hid (s = K) := (by omega : s = K)
          have HO1 : Hid (OwnsI wr w.heap.size (.slice (some ⟨w.heap.size, 0, none⟩) N N) (cnt (allKids (ns.take (t + 1))) N) ∧ Below w.heap.size w wr) := by
            have := HJ.out
            rw [HsK.out, ← HK.out, List.take_length] at this
            rw [hNX.out]
            exact this
          clear HJ
          go_wp2
          go_roundw
          case rel => exact ⟨t + 1, by omega, by go_num, HO1.out.1, HO1.out.2⟩
          case measure => simp [intOf]; omega
    · have htm : Hid (t = N) := (by omega : t = N)
      have HF : Hid (OwnsI wr w.heap.size (.slice (some ⟨w.heap.size, 0, none⟩) N N) (cnt (allKids ns) N)) := by
        have := HO.out
        rw [htm.out, ← hN.out, List.take_length, hN.out] at this
        exact this
      go_wp2
      go_ret
      exact ⟨⟨_, rfl, HF.out⟩, hbw⟩

set_option maxRecDepth 100000 in
set_option maxHeartbeats 6400000 in
theorem parentsOf_any (va : Option Addr) (N cap : Nat) (ns : List Nd) (w : World) (hR : NdR.Row w w.heap.size (.slice va N cap) ns) (hN : Hid (ns.length = N)) (hl : szRow szNd ns ≤ 1048576) (hk : ∀ t, (ht : t < ns.length) → ∀ c ∈ ns[t].kids, 0 ≤ c ∧ c < (N : Int)) :
    Calls Try.prog 51 #[.slice va N cap] w fun e w' => (∃ g, e = .returned (.slice (some ⟨g, 0, none⟩) N N) ∧ OwnsI w' w.heap.size (.slice (some ⟨g, 0, none⟩) N N) (cnt (allKids ns) N)) ∧ Below w.heap.size w w' := by
  have hNl : N ≤ 1048576 := by have := len_szRow szNd ns; have := hN.out; omega
  have HR : Hid (NdR.Row w w.heap.size (.slice va N cap) ns) := hR
  have HL : Hid (szRow szNd ns ≤ 1048576) := hl
  have HC : Hid (∀ t, (ht : t < ns.length) → ∀ c ∈ ns[t].kids, 0 ≤ c ∧ c < (N : Int)) := hk
  clear hR hl hk
  obtain ⟨i0, hi, hz0, hz1, hz2⟩ := info_parts Try.infoInt
  go_enter Try.func51, Try.ntmps51
  go_wp2_with (at_make; refine wpList_make_full _ rfl _ _ 43 rfl w.heap.size 3 i0 _ 1 Try.underlying43 hi hz0 hz1 _ _ _ _ N rfl rfl (by omega) (by omega) (by rw [hz2]; omega) (by unfold maxLen; omega) (Nat.le_refl _) ?_; intro w0 hown0 hg0)
  clear hi hz0 hz1 hz2
  go_loopw [13] (fun i wr => ∃ t : Nat, t ≤ N ∧ i = .int .i64 (t : Int) ∧ Hid (OwnsI wr w.heap.size (.slice (some ⟨w.heap.size, 0, none⟩) N N) (cnt (allKids (ns.take t)) N)) ∧ Below w.heap.size w wr) (fun i _ => N - (intOf i).toNat)
  case atStart =>
    refine ⟨0, Nat.zero_le _, rfl, ?_, (Below.refl _ _).grown hg0 (Nat.le_refl _) (fun k hk => by cases hk)⟩
    show OwnsI _ _ _ _
    unfold OwnsI OwnsR
    rw [List.take_zero, show allKids [] = [] from rfl, cnt_nil, List.length_replicate, ← zero_ints]
    exact hown0
  case round =>
    obtain ⟨t, ht, rfl, HO, hbw⟩ := hrel
    clear hown0 hg0
    by_cases hlt : t < N
    · have ht2 : (t : Int) < (N : Int) := by omega
      have ht0 : (0 : Int) ≤ (t : Int) := by omega
      have htl : t < ns.length := by rw [hN.out]; omega
      obtain ⟨b, off, ka, kc, rfl, hb, c0, c1, c2, c3, hK⟩ := RowNd.at HR.out t htl
      obtain ⟨q, hq⟩ : ∃ q, Hid (ns[t] = q) := ⟨_, (rfl : ns[t] = ns[t])⟩
      have hPL : Hid (∀ s, (allKids (ns.take t) ++ q.kids.take s).length ≤ 1048576) := fun s => by rw [← hq.out]; exact Nat.le_trans (pre_len ns t s htl) HL.out
      have hKC : Hid (∀ c ∈ q.kids, 0 ≤ c ∧ c < (N : Int)) := by rw [← hq.out]; exact HC.out t htl
      have hNX : Hid (allKids (ns.take (t + 1)) = allKids (ns.take t) ++ q.kids) := by rw [← hq.out]; exact allKids_take ns t htl
      rw [hq.out] at c0 c1 c2 c3 hK
      obtain ⟨kd, nm, tx, ks⟩ := q
      simp only at c0 c1 c2 c3 hK hPL hKC hNX
      obtain ⟨L0, hL0⟩ : ∃ L0, Hid (allKids (ns.take t) = L0) := ⟨_, (rfl : allKids (ns.take t) = allKids (ns.take t))⟩
      rw [hL0.out] at hPL HO hNX
      obtain ⟨K, HK⟩ : ∃ K, Hid (ks.length = K) := ⟨_, (rfl : ks.length = ks.length)⟩
      have hKl : K ≤ 1048576 := by
        have h1 := hPL.out ks.length
        rw [List.take_length, List.length_append, HK.out] at h1
        omega
      rw [HK.out] at c3 hK
      have HI : Hid (RowI w w.heap.size (.slice ka K kc) ks) := hK
      have d0 := (hbw.cell (p := ⟨b, off + t * 4, none⟩) hb).trans c0
      have d1 := (hbw.cell (p := ⟨b, off + t * 4 + 1, none⟩) hb).trans c1
      have d2 := (hbw.cell (p := ⟨b, off + t * 4 + 2, none⟩) hb).trans c2
      have d3 := (hbw.cell (p := ⟨b, off + t * 4 + 3, none⟩) hb).trans c3
      have hsz := hbw.size
      clear c0 c1 c2 hK
      go_wp2_with fail
      go_loopw [20] (fun j wj => ∃ s : Nat, s ≤ K ∧ j = .int .i64 (s : Int) ∧ Hid (OwnsI wj w.heap.size (.slice (some ⟨w.heap.size, 0, none⟩) N N) (cnt (L0 ++ ks.take s) N) ∧ Below w.heap.size w wj)) (fun j _ => K - (intOf j).toNat)
      case atStart =>
        refine ⟨0, Nat.zero_le _, rfl, ?_⟩
        show _ ∧ _
        rw [List.take_zero, List.append_nil]
        exact ⟨World.ownsRow.alloc HO.out _, hbw.alloc hsz _⟩
      case round =>
        obtain ⟨s, hs, rfl, HJ⟩ := hrel
        clear hbw d3 d0 d1 d2 HO
        have e3 := (HJ.out.2.cell (p := ⟨b, off + t * 4 + 3, none⟩) hb).trans c3
        by_cases hsl : s < K
        · have hs0 : (0 : Int) ≤ (s : Int) := by omega
          have hs1 : (s : Int) < (K : Int) := by omega
          have hskl : s < ks.length := by have := HK.out; omega
          obtain ⟨kb, ko, rfl, hkb, e0⟩ := HI.out.at s hskl
          obtain ⟨c, hc⟩ : ∃ c, Hid (ks[s] = c) := ⟨_, (rfl : ks[s] = ks[s])⟩
          have f0 := (HJ.out.2.cell (p := ⟨kb, ko + s, none⟩) hkb).trans e0
          rw [hc.out] at f0
          have hcb : 0 ≤ c ∧ c < (N : Int) := hKC.out c (by rw [← hc.out]; exact List.getElem_mem hskl)
          obtain ⟨cn, rfl⟩ : ∃ cn : Nat, c = (cn : Int) := ⟨c.toNat, by omega⟩
          have hc0 : (0 : Int) ≤ (cn : Int) := by omega
          have hc1 : (cn : Int) < (N : Int) := hcb.2
          have hcn : cn < N := by omega
          obtain ⟨y, hy⟩ : ∃ y, Hid ((cnt (L0 ++ ks.take s) N)[cn]'(by rw [cnt_len]; exact hcn) = y) := ⟨_, (rfl : (cnt (L0 ++ ks.take s) N)[cn]'(by rw [cnt_len]; exact hcn) = _)⟩
          have hyb := cnt_bound (L0 ++ ks.take s) N cn hcn
          rw [hy.out] at hyb
          have hy0 := hyb.1
          have hy1 : y ≤ 1048576 := by have := hPL.out s; omega
          have g1 := OwnsI.cellAt HJ.out.1 (cnt_len _ N).symm cn (by rw [cnt_len]; exact hcn) y hy.out
          have g2 := OwnsI.freeAt HJ.out.1 (cnt_len _ N).symm cn
          have SJ : Hid (OwnsI (wr.setCell ⟨w.heap.size, cn, none⟩ (.int .i64 (y + 1))) w.heap.size (.slice (some ⟨w.heap.size, 0, none⟩) N N) (cnt (L0 ++ ks.take (s + 1)) N) ∧ Below w.heap.size w (wr.setCell ⟨w.heap.size, cn, none⟩ (.int .i64 (y + 1)))) := by
            have := OwnsI.set HJ.out.1 (cnt_len _ N).symm cn (by rw [cnt_len]; exact hcn) (y + 1)
            rw [cnt_step _ N cn hcn y hy.out, cnt_more L0 ks s hskl _ hc.out] at this
            exact ⟨this, HJ.out.2.setCell (p := ⟨w.heap.size, cn, none⟩) (Nat.le_refl _) _⟩
          clear e0 hcb hyb
          go_wp2
          go_roundw
          case rel => exact ⟨s + 1, by omega, by go_num, SJ⟩
          case measure => simp [intOf]; omega
        · have HsK : Hid (s = K) := (by omega : s = K)
          have HO1 : Hid (OwnsI wr w.heap.size (.slice (some ⟨w.heap.size, 0, none⟩) N N) (cnt (allKids (ns.take (t + 1))) N) ∧ Below w.heap.size w wr) := by
            have := HJ.out
            rw [HsK.out, ← HK.out, List.take_length] at this
            rw [hNX.out]
            exact this
          clear HJ
          go_wp2
          go_roundw
          case rel => exact ⟨t + 1, by omega, by go_num, HO1.out.1, HO1.out.2⟩
          case measure => simp [intOf]; omega
    · have htm : Hid (t = N) := (by omega : t = N)
      have HF : Hid (OwnsI wr w.heap.size (.slice (some ⟨w.heap.size, 0, none⟩) N N) (cnt (allKids ns) N)) := by
        have := HO.out
        rw [htm.out, ← hN.out, List.take_length, hN.out] at this
        exact this
      go_wp2
      go_ret
      exact ⟨⟨_, rfl, HF.out⟩, hbw⟩

end Go.Proofs.Ytccelfjlffoiiaa
