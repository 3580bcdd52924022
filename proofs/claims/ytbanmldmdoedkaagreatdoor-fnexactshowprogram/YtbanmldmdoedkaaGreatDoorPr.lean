/-
  Chapter 4: how often each node is a kid, in the model and in the program.
  Chapter 4, in the program: what is asked of params, of Body and Ret.
  Chapter 4, in the program: right functions; whose Body or Ret a node is.
  Chapter 4, in the program: whose Body or Ret a node is; right programs.
  Chapter 4, in the model: right functions.
  ProgramOk, in the model: what it answers at every program.
  Under, in the program: what it answers at every program and every place.
  The law of FnAt: at every program and every name it answers true.
-/
import Derived.Test.YtbanmldmdoedkaaGreatDoorDe
import Derived.Test.YtbanmldmdoedkaaGreatDoorPa
import Derived.Test.YtbanmldmdoedkaaGreatDoorRa
import Derived.Test.YtbanmldmdoedkaaGreatDoorKa
namespace Go.Proofs.YtbanmldmdoedkaaGreatDoor
open Go.RowKit

theorem cnt_more (l ks : List Int) (s : Nat) (h : s < ks.length) (c : Int) (hc : ks[s] = c) : l ++ ks.take s ++ [c] = l ++ ks.take (s + 1) := by
  rw [List.take_succ_eq_append_getElem h, hc, List.append_assoc]

set_option maxRecDepth 100000 in
set_option maxHeartbeats 6400000 in
theorem l04Used_any (va : Option Addr) (N cap : Nat) (ns : List Nd) (w : World) (hR : NdR.Row w w.heap.size (.slice va N cap) ns) (hN : Hid (ns.length = N)) (hl : szRow szNd ns ≤ 1048576) (hk : ∀ t, (ht : t < ns.length) → ∀ c ∈ ns[t].kids, 0 ≤ c ∧ c < (N : Int)) :
    Calls Tryz.prog 65 #[.slice va N cap] w fun e w' => (∃ g, e = .returned (.slice (some ⟨g, 0, none⟩) N N) ∧ OwnsI w' w.heap.size (.slice (some ⟨g, 0, none⟩) N N) (cnt (allKids ns) N)) ∧ Below w.heap.size w w' := by
  have hNl : N ≤ 1048576 := by have := len_szRow szNd ns; have := hN.out; omega
  have HR : Hid (NdR.Row w w.heap.size (.slice va N cap) ns) := hR
  have HL : Hid (szRow szNd ns ≤ 1048576) := hl
  have HC : Hid (∀ t, (ht : t < ns.length) → ∀ c ∈ ns[t].kids, 0 ≤ c ∧ c < (N : Int)) := hk
  clear hR hl hk
  obtain ⟨i0, hi, hz0, hz1, hz2⟩ := info_parts Tryz.infoInt
  go_enter Tryz.func65, Tryz.ntmps65
  go_wp2_with (at_make; refine wpList_make_full _ rfl _ _ 85 rfl w.heap.size 3 i0 _ 1 Tryz.underlying85 hi hz0 hz1 _ _ _ _ N rfl rfl (by omega) (by omega) (by rw [hz2]; omega) (by unfold maxLen; omega) (Nat.le_refl _) ?_; intro w0 hown0 hg0)
  clear hi hz0 hz1 hz2
  go_loopw [4] (fun i wr => ∃ t : Nat, t ≤ N ∧ i = .int .i64 (t : Int) ∧ Hid (OwnsI wr w.heap.size (.slice (some ⟨w.heap.size, 0, none⟩) N N) (cnt (allKids (ns.take t)) N)) ∧ Below w.heap.size w wr) (fun i _ => N - (intOf i).toNat)
  case atStart =>
    refine ⟨0, Nat.zero_le _, rfl, ?_, (Below.refl _ _).grown hg0 (Nat.le_refl _) (fun k hk => by cases hk)⟩
    show OwnsI _ _ _ _
    unfold OwnsI OwnsR
    rw [List.take_zero, show allKids [] = [] from rfl, cnt_nil, List.length_replicate, ← zero_ints]
    exact hown0
  case round =>
    obtain ⟨t, ht, rfl, HO, hbw⟩ := hrel
    clear hown0 hg0
    by_cases hlt : t < N
    · have ht2 : (t : Int) < (N : Int) := by omega
      have ht0 : (0 : Int) ≤ (t : Int) := by omega
      have htl : t < ns.length := by rw [hN.out]; omega
      obtain ⟨b, off, ka, kc, rfl, hb, c0, c1, c2, c3, hK⟩ := RowNd.at HR.out t htl
      obtain ⟨q, hq⟩ : ∃ q, Hid (ns[t] = q) := ⟨_, (rfl : ns[t] = ns[t])⟩
      have hPL : Hid (∀ s, (allKids (ns.take t) ++ q.kids.take s).length ≤ 1048576) := fun s => by rw [← hq.out]; exact Nat.le_trans (pre_len ns t s htl) HL.out
      have hKC : Hid (∀ c ∈ q.kids, 0 ≤ c ∧ c < (N : Int)) := by rw [← hq.out]; exact HC.out t htl
      have hNX : Hid (allKids (ns.take (t + 1)) = allKids (ns.take t) ++ q.kids) := by rw [← hq.out]; exact allKids_take ns t htl
      rw [hq.out] at c0 c1 c2 c3 hK
      obtain ⟨kd, nm, tx, ks⟩ := q
      simp only at c0 c1 c2 c3 hK hPL hKC hNX
      obtain ⟨L0, hL0⟩ : ∃ L0, Hid (allKids (ns.take t) = L0) := ⟨_, (rfl : allKids (ns.take t) = allKids (ns.take t))⟩
      rw [hL0.out] at hPL HO hNX
      obtain ⟨K, HK⟩ : ∃ K, Hid (ks.length = K) := ⟨_, (rfl : ks.length = ks.length)⟩
      have hKl : K ≤ 1048576 := by
        have h1 := hPL.out ks.length
        rw [List.take_length, List.length_append, HK.out] at h1
        omega
      rw [HK.out] at c3 hK
      have HI : Hid (RowI w w.heap.size (.slice ka K kc) ks) := hK
      have d0 := (hbw.cell (p := ⟨b, off + t * 4, none⟩) hb).trans c0
      have d1 := (hbw.cell (p := ⟨b, off + t * 4 + 1, none⟩) hb).trans c1
      have d2 := (hbw.cell (p := ⟨b, off + t * 4 + 2, none⟩) hb).trans c2
      have d3 := (hbw.cell (p := ⟨b, off + t * 4 + 3, none⟩) hb).trans c3
      have hsz := hbw.size
      clear c0 c1 c2 d0 d1 d2 hK
      go_wp2_with fail
      go_loopw [5] (fun j wj => ∃ s : Nat, s ≤ K ∧ j = .int .i64 (s : Int) ∧ Hid (OwnsI wj w.heap.size (.slice (some ⟨w.heap.size, 0, none⟩) N N) (cnt (L0 ++ ks.take s) N) ∧ Below w.heap.size w wj)) (fun j _ => K - (intOf j).toNat)
      case atStart =>
        refine ⟨0, Nat.zero_le _, rfl, ?_⟩
        show _ ∧ _
        rw [List.take_zero, List.append_nil]
        exact ⟨HO.out, hbw⟩
      case round =>
        obtain ⟨s, hs, rfl, HJ⟩ := hrel
        clear hbw d3 HO
        have e3 := (HJ.out.2.cell (p := ⟨b, off + t * 4 + 3, none⟩) hb).trans c3
        by_cases hsl : s < K
        · have hs0 : (0 : Int) ≤ (s : Int) := by omega
          have hs1 : (s : Int) < (K : Int) := by omega
          have hskl : s < ks.length := by have := HK.out; omega
          obtain ⟨kb, ko, rfl, hkb, e0⟩ := HI.out.at s hskl
          obtain ⟨c, hc⟩ : ∃ c, Hid (ks[s] = c) := ⟨_, (rfl : ks[s] = ks[s])⟩
          have f0 := (HJ.out.2.cell (p := ⟨kb, ko + s, none⟩) hkb).trans e0
          rw [hc.out] at f0
          have hcb : 0 ≤ c ∧ c < (N : Int) := hKC.out c (by rw [← hc.out]; exact List.getElem_mem hskl)
          obtain ⟨cn, rfl⟩ : ∃ cn : Nat, c = (cn : Int) := ⟨c.toNat, by omega⟩
          have hc0 : (0 : Int) ≤ (cn : Int) := by omega
          have hc1 : (cn : Int) < (N : Int) := hcb.2
          have hcn : cn < N := by omega
          obtain ⟨y, hy⟩ : ∃ y, Hid ((cnt (L0 ++ ks.take s) N)[cn]'(by rw [cnt_len]; exact hcn) = y) := ⟨_, (rfl : (cnt (L0 ++ ks.take s) N)[cn]'(by rw [cnt_len]; exact hcn) = _)⟩
          have hyb := cnt_bound (L0 ++ ks.take s) N cn hcn
          rw [hy.out] at hyb
          have hy0 := hyb.1
          have hy1 : y ≤ 1048576 := by have := hPL.out s; omega
          have g1 := OwnsI.cellAt HJ.out.1 (cnt_len _ N).symm cn (by rw [cnt_len]; exact hcn) y hy.out
          have g2 := OwnsI.freeAt HJ.out.1 (cnt_len _ N).symm cn
          have SJ : Hid (OwnsI (wr.setCell ⟨w.heap.size, cn, none⟩ (.int .i64 (y + 1))) w.heap.size (.slice (some ⟨w.heap.size, 0, none⟩) N N) (cnt (L0 ++ ks.take (s + 1)) N) ∧ Below w.heap.size w (wr.setCell ⟨w.heap.size, cn, none⟩ (.int .i64 (y + 1)))) := by
            have := OwnsI.set HJ.out.1 (cnt_len _ N).symm cn (by rw [cnt_len]; exact hcn) (y + 1)
            rw [cnt_step _ N cn hcn y hy.out, cnt_more L0 ks s hskl _ hc.out] at this
            exact ⟨this, HJ.out.2.setCell (p := ⟨w.heap.size, cn, none⟩) (Nat.le_refl _) _⟩
          clear e0 hcb hyb
          go_wp2
          go_roundw
          case rel => exact ⟨s + 1, by omega, by go_num, SJ⟩
          case measure => simp [intOf]; omega
        · have HsK : Hid (s = K) := (by omega : s = K)
          have HO1 : Hid (OwnsI wr w.heap.size (.slice (some ⟨w.heap.size, 0, none⟩) N N) (cnt (allKids (ns.take (t + 1))) N) ∧ Below w.heap.size w wr) := by
            have := HJ.out
            rw [HsK.out, ← HK.out, List.take_length] at this
            rw [hNX.out]
            exact this
          clear HJ
          go_wp2
          go_roundw
          case rel => exact ⟨t + 1, by omega, by go_num, HO1.out.1, HO1.out.2⟩
          case measure => simp [intOf]; omega
    · have htm : Hid (t = N) := (by omega : t = N)
      have HF : Hid (OwnsI wr w.heap.size (.slice (some ⟨w.heap.size, 0, none⟩) N N) (cnt (allKids ns) N)) := by
        have := HO.out
        rw [htm.out, ← hN.out, List.take_length, hN.out] at this
        exact this
      go_wp2
      go_ret
      exact ⟨⟨_, rfl, HF.out⟩, hbw⟩

set_option maxRecDepth 100000 in
set_option maxHeartbeats 6400000 in
theorem parentsOf_any (va : Option Addr) (N cap : Nat) (ns : List Nd) (w : World) (hR : NdR.Row w w.heap.size (.slice va N cap) ns) (hN : Hid (ns.length = N)) (hl : szRow szNd ns ≤ 1048576) (hk : ∀ t, (ht : t < ns.length) → ∀ c ∈ ns[t].kids, 0 ≤ c ∧ c < (N : Int)) :
    Calls Tryz.prog 75 #[.slice va N cap] w fun e w' => (∃ g, e = .returned (.slice (some ⟨g, 0, none⟩) N N) ∧ OwnsI w' w.heap.size (.slice (some ⟨g, 0, none⟩) N N) (cnt (allKids ns) N)) ∧ Below w.heap.size w w' := by
  have hNl : N ≤ 1048576 := by have := len_szRow szNd ns; have := hN.out; omega
  have HR : Hid (NdR.Row w w.heap.size (.slice va N cap) ns) := hR
  have HL : Hid (szRow szNd ns ≤ 1048576) := hl
  have HC : Hid (∀ t, (ht : t < ns.length) → ∀ c ∈ ns[t].kids, 0 ≤ c ∧ c < (N : Int)) := hk
  clear hR hl hk
  obtain ⟨i0, hi, hz0, hz1, hz2⟩ := info_parts Tryz.infoInt
  go_enter Tryz.func75, Tryz.ntmps75
  go_wp2_with (at_make; refine wpList_make_full _ rfl _ _ 85 rfl w.heap.size 3 i0 _ 1 Tryz.underlying85 hi hz0 hz1 _ _ _ _ N rfl rfl (by omega) (by omega) (by rw [hz2]; omega) (by unfold maxLen; omega) (Nat.le_refl _) ?_; intro w0 hown0 hg0)
  clear hi hz0 hz1 hz2
  go_loopw [13] (fun i wr => ∃ t : Nat, t ≤ N ∧ i = .int .i64 (t : Int) ∧ Hid (OwnsI wr w.heap.size (.slice (some ⟨w.heap.size, 0, none⟩) N N) (cnt (allKids (ns.take t)) N)) ∧ Below w.heap.size w wr) (fun i _ => N - (intOf i).toNat)
  case atStart =>
    refine ⟨0, Nat.zero_le _, rfl, ?_, (Below.refl _ _).grown hg0 (Nat.le_refl _) (fun k hk => by cases hk)⟩
    show OwnsI _ _ _ _
    unfold OwnsI OwnsR
    rw [List.take_zero, show allKids [] = [] from rfl, cnt_nil, List.length_replicate, ← zero_ints]
    exact hown0
  case round =>
    obtain ⟨t, ht, rfl, HO, hbw⟩ := hrel
    clear hown0 hg0
    by_cases hlt : t < N
    · have ht2 : (t : Int) < (N : Int) := by omega
      have ht0 : (0 : Int) ≤ (t : Int) := by omega
      have htl : t < ns.length := by rw [hN.out]; omega
      obtain ⟨b, off, ka, kc, rfl, hb, c0, c1, c2, c3, hK⟩ := RowNd.at HR.out t htl
      obtain ⟨q, hq⟩ : ∃ q, Hid (ns[t] = q) := ⟨_, (rfl : ns[t] = ns[t])⟩
      have hPL : Hid (∀ s, (allKids (ns.take t) ++ q.kids.take s).length ≤ 1048576) := fun s => by rw [← hq.out]; exact Nat.le_trans (pre_len ns t s htl) HL.out
      have hKC : Hid (∀ c ∈ q.kids, 0 ≤ c ∧ c < (N : Int)) := by rw [← hq.out]; exact HC.out t htl
      have hNX : Hid (allKids (ns.take (t + 1)) = allKids (ns.take t) ++ q.kids) := by rw [← hq.out]; exact allKids_take ns t htl
      rw [hq.out] at c0 c1 c2 c3 hK
      obtain ⟨kd, nm, tx, ks⟩ := q
      simp only at c0 c1 c2 c3 hK hPL hKC hNX
      obtain ⟨L0, hL0⟩ : ∃ L0, Hid (allKids (ns.take t) = L0) := ⟨_, (rfl : allKids (ns.take t) = allKids (ns.take t))⟩
      rw [hL0.out] at hPL HO hNX
      obtain ⟨K, HK⟩ : ∃ K, Hid (ks.length = K) := ⟨_, (rfl : ks.length = ks.length)⟩
      have hKl : K ≤ 1048576 := by
        have h1 := hPL.out ks.length
        rw [List.take_length, List.length_append, HK.out] at h1
        omega
      rw [HK.out] at c3 hK
      have HI : Hid (RowI w w.heap.size (.slice ka K kc) ks) := hK
      have d0 := (hbw.cell (p := ⟨b, off + t * 4, none⟩) hb).trans c0
      have d1 := (hbw.cell (p := ⟨b, off + t * 4 + 1, none⟩) hb).trans c1
      have d2 := (hbw.cell (p := ⟨b, off + t * 4 + 2, none⟩) hb).trans c2
      have d3 := (hbw.cell (p := ⟨b, off + t * 4 + 3, none⟩) hb).trans c3
      have hsz := hbw.size
      clear c0 c1 c2 hK
      go_wp2_with fail
      go_loopw [20] (fun j wj => ∃ s : Nat, s ≤ K ∧ j = .int .i64 (s : Int) ∧ Hid (OwnsI wj w.heap.size (.slice (some ⟨w.heap.size, 0, none⟩) N N) (cnt (L0 ++ ks.take s) N) ∧ Below w.heap.size w wj)) (fun j _ => K - (intOf j).toNat)
      case atStart =>
        refine ⟨0, Nat.zero_le _, rfl, ?_⟩
        show _ ∧ _
        rw [List.take_zero, List.append_nil]
        exact ⟨World.ownsRow.alloc HO.out _, hbw.alloc hsz _⟩
      case round =>
        obtain ⟨s, hs, rfl, HJ⟩ := hrel
        clear hbw d3 d0 d1 d2 HO
        have e3 := (HJ.out.2.cell (p := ⟨b, off + t * 4 + 3, none⟩) hb).trans c3
        by_cases hsl : s < K
        · have hs0 : (0 : Int) ≤ (s : Int) := by omega
          have hs1 : (s : Int) < (K : Int) := by omega
          have hskl : s < ks.length := by have := HK.out; omega
          obtain ⟨kb, ko, rfl, hkb, e0⟩ := HI.out.at s hskl
          obtain ⟨c, hc⟩ : ∃ c, Hid (ks[s] = c) := ⟨_, (rfl : ks[s] = ks[s])⟩
          have f0 := (HJ.out.2.cell (p := ⟨kb, ko + s, none⟩) hkb).trans e0
          rw [hc.out] at f0
          have hcb : 0 ≤ c ∧ c < (N : Int) := hKC.out c (by rw [← hc.out]; exact List.getElem_mem hskl)
          obtain ⟨cn, rfl⟩ : ∃ cn : Nat, c = (cn : Int) := ⟨c.toNat, by omega⟩
          have hc0 : (0 : Int) ≤ (cn : Int) := by omega
          have hc1 : (cn : Int) < (N : Int) := hcb.2
          have hcn : cn < N := by omega
          obtain ⟨y, hy⟩ : ∃ y, Hid ((cnt (L0 ++ ks.take s) N)[cn]'(by rw [cnt_len]; exact hcn) = y) := ⟨_, (rfl : (cnt (L0 ++ ks.take s) N)[cn]'(by rw [cnt_len]; exact hcn) = _)⟩
          have hyb := cnt_bound (L0 ++ ks.take s) N cn hcn
          rw [hy.out] at hyb
          have hy0 := hyb.1
          have hy1 : y ≤ 1048576 := by have := hPL.out s; omega
          have g1 := OwnsI.cellAt HJ.out.1 (cnt_len _ N).symm cn (by rw [cnt_len]; exact hcn) y hy.out
          have g2 := OwnsI.freeAt HJ.out.1 (cnt_len _ N).symm cn
          have SJ : Hid (OwnsI (wr.setCell ⟨w.heap.size, cn, none⟩ (.int .i64 (y + 1))) w.heap.size (.slice (some ⟨w.heap.size, 0, none⟩) N N) (cnt (L0 ++ ks.take (s + 1)) N) ∧ Below w.heap.size w (wr.setCell ⟨w.heap.size, cn, none⟩ (.int .i64 (y + 1)))) := by
            have := OwnsI.set HJ.out.1 (cnt_len _ N).symm cn (by rw [cnt_len]; exact hcn) (y + 1)
            rw [cnt_step _ N cn hcn y hy.out, cnt_more L0 ks s hskl _ hc.out] at this
            exact ⟨this, HJ.out.2.setCell (p := ⟨w.heap.size, cn, none⟩) (Nat.le_refl _) _⟩
          clear e0 hcb hyb
          go_wp2
          go_roundw
          case rel => exact ⟨s + 1, by omega, by go_num, SJ⟩
          case measure => simp [intOf]; omega
        · have HsK : Hid (s = K) := (by omega : s = K)
          have HO1 : Hid (OwnsI wr w.heap.size (.slice (some ⟨w.heap.size, 0, none⟩) N N) (cnt (allKids (ns.take (t + 1))) N) ∧ Below w.heap.size w wr) := by
            have := HJ.out
            rw [HsK.out, ← HK.out, List.take_length] at this
            rw [hNX.out]
            exact this
          clear HJ
          go_wp2
          go_roundw
          case rel => exact ⟨t + 1, by omega, by go_num, HO1.out.1, HO1.out.2⟩
          case measure => simp [intOf]; omega
    · have htm : Hid (t = N) := (by omega : t = N)
      have HF : Hid (OwnsI wr w.heap.size (.slice (some ⟨w.heap.size, 0, none⟩) N N) (cnt (allKids ns) N)) := by
        have := HO.out
        rw [htm.out, ← hN.out, List.take_length, hN.out] at this
        exact this
      go_wp2
      go_ret
      exact ⟨⟨_, rfl, HF.out⟩, hbw⟩

end Go.Proofs.YtbanmldmdoedkaaGreatDoor

namespace Go.Proofs.YtbanmldmdoedkaaGreatDoor
open Go.RowKit

/-- One node's kind. -/
theorem kind_at {w : World} {B b off N cap : Nat} {ns : List Nd} (h : NdR.Row w B (.slice (some ⟨b, off, none⟩) N cap) ns) (m : Nat) (hm : m < ns.length) : ∃ d, ns[m].kind = d ∧ (ns.getD m nd0).kind = d ∧ b < B ∧ w.cell? ⟨b, off + m * 4, none⟩ = some (.int .i64 d) := by
  obtain ⟨b', off', ka, kc, e, hb, c0, _⟩ := RowNd.at h m hm
  cases e
  exact ⟨_, rfl, by simp [List.getD, hm], hb, c0⟩

set_option maxRecDepth 100000 in
set_option maxHeartbeats 1600000 in
theorem endsOk_any (va : Option Addr) (N cap : Nat) (ns : List Nd) (f : Fc) (pv : Value) (w : World) (hR : NdR.Row w w.heap.size (.slice va N cap) ns) (hN : Hid (ns.length = N)) :
    Calls Tryz.prog 132 #[.slice va N cap, .agg #[.string f.name, pv, .int .i64 f.res, .int .i64 f.body, .int .i64 f.ret]] w fun e w' => e = .returned (.bool (endsOkB ns f)) ∧ Below w.heap.size w w' := by
  obtain ⟨fname, fpar, res, body, ret⟩ := f
  simp only
  have cB : Hid (∀ W k r, isIn k 0 ((N : Int) - 1) = r → Calls Tryz.prog 93 #[.slice va N cap, .int .i64 k] W fun e w' => e = .returned (.bool r) ∧ w' = W) := fun W k r h => by rw [← h]; exact isPlace_any va N cap k W
  obtain ⟨z, hz⟩ : ∃ z, Hid (endsOkB ns ⟨fname, fpar, res, body, ret⟩ = z) := ⟨_, (rfl : endsOkB ns ⟨fname, fpar, res, body, ret⟩ = _)⟩
  rw [hz.out]
  have HZ := hz.out
  unfold endsOkB at HZ
  simp only at HZ
  rw [hN.out] at HZ
  rcases isIn_cases body 0 ((N : Int) - 1) with ⟨hi, h⟩ | ⟨hi, h0, h1⟩
  · rw [hi, Bool.false_and, Bool.false_and] at HZ
    subst HZ
    go_enter Tryz.func132, Tryz.ntmps132
    go_wp2_with (go_at_call 93; refine Calls.mono (cB.out _ _ _ hi) ?_; rintro e w1 ⟨rfl, h⟩; obtain rfl := h.symm)
    go_ret
    exact ⟨rfl, by go_grown⟩
  rw [hi, Bool.true_and] at HZ
  obtain ⟨bn, rfl⟩ : ∃ bn : Nat, body = (bn : Int) := ⟨body.toNat, by omega⟩
  have hbn : bn < ns.length := by rw [hN.out]; omega
  have HV : Hid (NdR.Row w w.heap.size (.slice va N cap) ns) := hR
  obtain ⟨b, off, _, _, rfl, _⟩ := RowNd.at hR bn hbn
  obtain ⟨d, _, hd, hb, c0⟩ := kind_at hR bn hbn
  rw [Int.toNat_natCast, hd] at HZ
  have hb0 : (0 : Int) ≤ (bn : Int) := by omega
  have hb1 : (bn : Int) < (N : Int) := by omega
  have d0 : ∀ o1, (w.alloc o1).cell? ⟨b, off + bn * 4, none⟩ = some (.int .i64 d) := fun o1 => (cell_old w o1 hb).trans c0
  clear hR c0
  by_cases h20 : d = 20
  · subst h20
    simp only [decide_true, Bool.true_and] at HZ
    by_cases hr0 : res = 0
    · subst hr0
      simp only [if_true] at HZ
      by_cases hm1 : ret = -1
      · subst hm1
        simp only [decide_true] at HZ
        subst HZ
        go_enter Tryz.func132, Tryz.ntmps132
        go_wp2_with (go_at_call 93; refine Calls.mono (cB.out _ _ _ hi) ?_; rintro e w1 ⟨rfl, h⟩; obtain rfl := h.symm)
        go_ret
        exact ⟨rfl, by go_grown⟩
      · have e1 : (ret == -1) = false := by simpa using hm1
        have e2 : z = false := by rw [← HZ]; simpa using hm1
        subst e2
        clear HZ hm1
        go_enter Tryz.func132, Tryz.ntmps132
        go_wp2_with (go_at_call 93; refine Calls.mono (cB.out _ _ _ hi) ?_; rintro e w1 ⟨rfl, h⟩; obtain rfl := h.symm)
        go_ret
        exact ⟨rfl, by go_grown⟩
    · rw [if_neg hr0] at HZ
      by_cases hr12 : res = 1 ∨ res = 2
      · rw [if_pos hr12] at HZ
        rcases isIn_cases ret 0 ((N : Int) - 1) with ⟨hri, hrr⟩ | ⟨hri, hq0, hq1⟩
        · rw [hri, Bool.false_and] at HZ
          subst HZ
          rcases hr12 with rfl | rfl
          all_goals
            go_enter Tryz.func132, Tryz.ntmps132
            go_wp2_with (go_at_call 93; (first | (with_reducible refine Calls.mono (cB.out _ _ _ hi) ?_) | (with_reducible refine Calls.mono (cB.out _ _ _ hri) ?_)); rintro e w1 ⟨rfl, h⟩; obtain rfl := h.symm)
            go_ret
            exact ⟨rfl, by go_grown⟩
        · rw [hri, Bool.true_and] at HZ
          obtain ⟨rn, rfl⟩ : ∃ rn : Nat, ret = (rn : Int) := ⟨ret.toNat, by omega⟩
          have hrn : rn < ns.length := by rw [hN.out]; omega
          obtain ⟨d2, _, hd2, hb2, c2⟩ := kind_at HV.out rn hrn
          rw [Int.toNat_natCast, hd2] at HZ
          have hrb0 : (0 : Int) ≤ (rn : Int) := by omega
          have hrb1 : (rn : Int) < (N : Int) := by omega
          have d3 : ∀ o1, (w.alloc o1).cell? ⟨b, off + rn * 4, none⟩ = some (.int .i64 d2) := fun o1 => (cell_old w o1 hb2).trans c2
          have cV : Hid (∀ W, Calls Tryz.prog 56 #[.int .i64 d2] W fun e w' => e = .returned (.bool z) ∧ w' = W) := fun W => by rw [← HZ]; exact isValue_any d2 W
          clear HZ c2
          rcases hr12 with rfl | rfl
          all_goals
            go_enter Tryz.func132, Tryz.ntmps132
            go_wp2_with (first | (go_at_call 93; (first | (with_reducible refine Calls.mono (cB.out _ _ _ hi) ?_) | (with_reducible refine Calls.mono (cB.out _ _ _ hri) ?_)); rintro e w1 ⟨rfl, h⟩; obtain rfl := h.symm) | (go_at_call 56; refine Calls.mono (cV.out _) ?_; rintro e w1 ⟨rfl, h⟩; obtain rfl := h.symm))
            go_ret
            exact ⟨rfl, by go_grown⟩
      · rw [if_neg hr12] at HZ
        subst HZ
        have e0 : (res == 0) = false := by simpa using hr0
        have e1 : (res == 1) = false := by simp; omega
        have e2 : (res == 2) = false := by simp; omega
        clear hr0 hr12
        go_enter Tryz.func132, Tryz.ntmps132
        go_wp2_with (go_at_call 93; refine Calls.mono (cB.out _ _ _ hi) ?_; rintro e w1 ⟨rfl, h⟩; obtain rfl := h.symm)
        go_ret
        exact ⟨rfl, by go_grown⟩
  · have e1 : (d != 20) = true := by simpa using h20
    have e2 : z = false := by rw [← HZ]; simp [h20]
    subst e2
    clear HZ h20
    go_enter Tryz.func132, Tryz.ntmps132
    go_wp2_with (go_at_call 93; refine Calls.mono (cB.out _ _ _ hi) ?_; rintro e w1 ⟨rfl, h⟩; obtain rfl := h.symm)
    go_ret
    exact ⟨rfl, by go_grown⟩

theorem pms_false {xs : List Pm} {k : Nat} (hk : k < xs.length) (h : pmOk xs[k] = false) : xs.all pmOk = false := by
  rw [← Bool.not_eq_true, List.all_eq_true]
  intro hh
  have := hh _ (List.getElem_mem hk)
  rw [h] at this
  cases this
theorem pms_true {xs : List Pm} (h : ∀ j, (hj : j < xs.length) → pmOk xs[j] = true) : xs.all pmOk = true := by
  rw [List.all_eq_true]
  intro x hx
  obtain ⟨j, hj, rfl⟩ := List.getElem_of_mem hx
  exact h j hj

set_option maxRecDepth 100000 in
set_option maxHeartbeats 1600000 in
theorem paramsOk_any (v : Value) (xs : List Pm) (w : World) (hR : PmR.Row w w.heap.size v xs) (hl : szRow szPm xs ≤ 1048576) :
    Calls Tryz.prog 131 #[v] w fun e w' => e = .returned (.bool (decide (xs.length ≤ 3) && xs.all pmOk)) ∧ Below w.heap.size w w' := by
  obtain ⟨a, cap, rfl⟩ := hR.len
  obtain ⟨N, HN⟩ : ∃ N, Hid (xs.length = N) := ⟨_, (rfl : xs.length = xs.length)⟩
  have H : Hid (PmR.Row w w.heap.size (.slice a N cap) xs) := by rw [← HN.out]; exact hR
  have HL : Hid (szRow szPm xs ≤ 1048576) := hl
  have hNl : N ≤ 1048576 := by have := len_szRow szPm xs; have := HN.out; omega
  rw [HN.out]
  clear hR hl
  by_cases h3 : (3 : Int) < (N : Int)
  · have HE : Hid (decide (N ≤ 3) = false) := by show _ = _; simp; omega
    go_enter Tryz.func131, Tryz.ntmps131
    go_wp2
    go_ret
    exact ⟨by rw [HE.out]; rfl, Below.refl _ _⟩
  have HE : Hid (decide (N ≤ 3) = true) := by show _ = _; simp; omega
  rw [HE.out, Bool.true_and]
  go_enter Tryz.func131, Tryz.ntmps131
  go_wp2
  go_loopw [10] (fun i wr => ∃ k : Nat, k ≤ N ∧ i = .int .i64 (k : Int) ∧ Hid (∀ j, (hj : j < xs.length) → j < k → pmOk xs[j] = true) ∧ Below w.heap.size w wr) (fun i _ => N - (intOf i).toNat)
  case atStart => exact ⟨0, Nat.zero_le _, rfl, fun j _ hj => by omega, Below.refl _ _⟩
  case round =>
    obtain ⟨k, hk, rfl, HK, hbw⟩ := hrel
    by_cases hlt : k < N
    · have hk1 : (k : Int) < (N : Int) := by omega
      have hk0 : (0 : Int) ≤ (k : Int) := by omega
      have hkl : k < xs.length := by have := HN.out; omega
      obtain ⟨b, off, rfl, hb, c0, c1⟩ := PmR.at H.out k hkl
      have hqs : xs[k].name.size ≤ 1048576 := Nat.le_trans (Nat.le_trans (le_szPm_name _) (mem_szRow szPm (List.getElem_mem hkl))) HL.out
      obtain ⟨q, hqe⟩ : ∃ q, Hid (xs[k] = q) := ⟨_, (rfl : xs[k] = xs[k])⟩
      rw [hqe.out] at c0 c1 hqs
      have d0 := (hbw.cell (p := ⟨b, off + k * 2, none⟩) hb).trans c0
      have d1 := (hbw.cell (p := ⟨b, off + k * 2 + 1, none⟩) hb).trans c1
      clear c0 c1
      obtain ⟨nm, ty⟩ := q
      simp only at d0 d1 hqs
      obtain ⟨ok, hok⟩ : ∃ r, Hid (nameOk nm = r) := ⟨_, (rfl : nameOk nm = nameOk nm)⟩
      have cO : Hid (∀ W, Calls Tryz.prog 129 #[.string nm] W fun e w' => e = .returned (.bool ok) ∧ Below W.heap.size W w') := fun W => by rw [← hok.out]; exact implNameOk_any nm W (Nat.le_trans hqs (by unfold maxLen; omega))
      have HP : Hid (pmOk ⟨nm, ty⟩ = (ok && isIn ty 1 4)) := by show _ = _; rw [pmOk, hok.out]
      have hsz := hbw.size
      go_wp2_with fail
      go_at_call 129
      refine Calls.mono (cO.out _) ?_
      rintro e w1 ⟨rfl, hb1⟩
      have HB1 : Hid (Below w.heap.size w w1) := (hbw.alloc hsz _).trans (hb1.mono (by simp; omega))
      have f1 : w1.cell? ⟨wr.heap.size, 1, none⟩ = some (.int .i64 ty) := (hb1.cell (p := ⟨wr.heap.size, 1, none⟩) (by show _ < _; simp)).trans (by simp)
      clear cO hb1 d0 d1
      cases ok
      · have HF : Hid (xs.all pmOk = false) := pms_false hkl (by rw [hqe.out, HP.out]; rfl)
        go_wp2
        go_ret
        exact ⟨by rw [HF.out]; rfl, HB1.out⟩
      · by_cases h1 : ty < 1
        · have HF : Hid (xs.all pmOk = false) := pms_false hkl (by rw [hqe.out, HP.out, isIn_off (by omega)]; rfl)
          go_wp2
          go_ret
          exact ⟨by rw [HF.out]; rfl, HB1.out⟩
        · by_cases h4 : 4 < ty
          · have HF : Hid (xs.all pmOk = false) := pms_false hkl (by rw [hqe.out, HP.out, isIn_off (by omega)]; rfl)
            go_wp2
            go_ret
            exact ⟨by rw [HF.out]; rfl, HB1.out⟩
          · have HK1 : Hid (∀ j, (hj : j < xs.length) → j < k + 1 → pmOk xs[j] = true) := fun j hj hjk => by
              by_cases e : j = k
              · subst e
                rw [hqe.out, HP.out, isIn_yes (by omega) (by omega)]
                rfl
              · exact HK.out j hj (by omega)
            go_wp2
            go_roundw
            case rel => exact ⟨k + 1, by omega, by go_num, HK1, HB1.out⟩
            case measure => simp [intOf]; omega
    · have HF : Hid (xs.all pmOk = true) := pms_true (fun j hj => HK.out j hj (by have := HN.out; omega))
      go_wp2
      go_ret
      exact ⟨by rw [HF.out]; rfl, hbw⟩

end Go.Proofs.YtbanmldmdoedkaaGreatDoor

namespace Go.Proofs.YtbanmldmdoedkaaGreatDoor
open Go.RowKit

theorem fnsOk_bad {fs : List Fc} (h : (fs.length : Int) < 1 ∨ 8 < (fs.length : Int)) (b : Bool) : (isIn (fs.length : Int) 1 8 && b) = false := by rw [isIn_off h]; rfl

set_option maxRecDepth 100000 in
set_option maxHeartbeats 3200000 in
theorem fnsOk_any (v0 v1 : Value) (p : Pg) (w : World) (hR : RowPg w w.heap.size v0 v1 p) (hl : szPg p ≤ 1048576) :
    Calls Tryz.prog 74 #[.agg #[v0, v1]] w fun e w' => e = .returned (.bool (isIn (p.fns.length : Int) 1 8 && fnsTo p.nodes p.fns p.fns.length)) ∧ Below w.heap.size w w' := by
  obtain ⟨ns, fs⟩ := p
  simp only
  have hfl : szRow szFc fs ≤ 1048576 := Nat.le_trans (le_szPg_fns ⟨ns, fs⟩) hl
  have hnl : szRow szNd ns ≤ 1048576 := Nat.le_trans (le_szPg_nodes ⟨ns, fs⟩) hl
  have HV : Hid (RowPg w w.heap.size v0 v1 ⟨ns, fs⟩) := hR
  obtain ⟨na, nc, rfl⟩ := hR.1.len
  obtain ⟨fa, fc, rfl⟩ := hR.2.len
  simp only at HV ⊢
  obtain ⟨N, HN⟩ : ∃ N, Hid (ns.length = N) := ⟨_, (rfl : ns.length = ns.length)⟩
  obtain ⟨F, HF⟩ : ∃ F, Hid (fs.length = F) := ⟨_, (rfl : fs.length = fs.length)⟩
  rw [HN.out, HF.out] at HV ⊢
  have hNl : N ≤ 1048576 := by have := len_szRow szNd ns; have := HN.out; omega
  have hFl : F ≤ 1048576 := by have := len_szRow szFc fs; have := HF.out; omega
  have HL : Hid (szRow szFc fs ≤ 1048576) := hfl
  clear hR hl hfl hnl
  by_cases h0 : F = 0
  · subst h0
    have HE : Hid (isIn ((0 : Nat) : Int) 1 8 = false) := rfl
    go_enter Tryz.func74, Tryz.ntmps74
    go_wp2
    go_ret
    exact ⟨by rw [HE.out]; rfl, by go_grown⟩
  have hF0 : ((F : Int) == 0) = false := by simp; omega
  by_cases h8 : (8 : Int) < (F : Int)
  · have HE : Hid (isIn (F : Int) 1 8 = false) := isIn_off (by omega)
    go_enter Tryz.func74, Tryz.ntmps74
    go_wp2
    go_ret
    exact ⟨by rw [HE.out]; rfl, by go_grown⟩
  have HE : Hid (isIn (F : Int) 1 8 = true) := isIn_yes (by omega) (by omega)
  rw [HE.out, Bool.true_and]
  clear h0
  go_enter Tryz.func74, Tryz.ntmps74
  go_wp2
  go_loopw [18] (fun i wr => ∃ t : Nat, t ≤ F ∧ i = .int .i64 (t : Int) ∧ Hid (fnsTo ns fs t = true) ∧ Hid (Box w (.cells #[.slice na N nc, .slice fa F fc] 27) wr)) (fun i _ => F - (intOf i).toNat)
  case atStart => exact ⟨0, Nat.zero_le _, rfl, rfl, Box.first _ _⟩
  case round =>
    obtain ⟨t, ht, rfl, HT, BX⟩ := hrel
    by_cases hlt : t < F
    · have ht1 : (t : Int) < (F : Int) := by omega
      have ht0 : (0 : Int) ≤ (t : Int) := by omega
      have htl : t < fs.length := by have := HF.out; omega
      obtain ⟨b, off, pv, rfl, hb, c0, c1, c2, c3, c4, hp⟩ := FcR.at HV.out.2 t htl
      have hsq : szFc fs[t] ≤ 1048576 := Nat.le_trans (mem_szRow szFc (List.getElem_mem htl)) HL.out
      obtain ⟨q, hqe⟩ : ∃ q, Hid (fs[t] = q) := ⟨_, (rfl : fs[t] = fs[t])⟩
      have HG : Hid (fs.getD t ⟨ByteArray.empty, [], 0, 0, 0⟩ = q) := by show _ = _; rw [← hqe.out]; simp [List.getD, htl]
      rw [hqe.out] at c0 c2 c3 c4 hp hsq
      obtain ⟨pa, pc, hpv⟩ := hp.len
      obtain ⟨pl, hpl⟩ : ∃ n, Hid (q.params.length = n) := ⟨_, (rfl : q.params.length = q.params.length)⟩
      rw [hpl.out] at hpv
      subst hpv
      have hbw := BX.out.below
      have d0 := (hbw.cell (p := ⟨b, off + t * 5, none⟩) hb).trans c0
      have d1 := (hbw.cell (p := ⟨b, off + t * 5 + 1, none⟩) hb).trans c1
      have d2 := (hbw.cell (p := ⟨b, off + t * 5 + 2, none⟩) hb).trans c2
      have d3 := (hbw.cell (p := ⟨b, off + t * 5 + 3, none⟩) hb).trans c3
      have d4 := (hbw.cell (p := ⟨b, off + t * 5 + 4, none⟩) hb).trans c4
      obtain ⟨ok1, hok1⟩ : ∃ r, Hid (nameOk q.name = r) := ⟨_, (rfl : nameOk q.name = nameOk q.name)⟩
      obtain ⟨z2, hz2⟩ : ∃ r, Hid (fnAt fs q.name = r) := ⟨_, (rfl : fnAt fs q.name = fnAt fs q.name)⟩
      obtain ⟨ok3, hok3⟩ : ∃ r, Hid ((decide (q.params.length ≤ 3) && q.params.all pmOk) = r) := ⟨_, (rfl : (decide (q.params.length ≤ 3) && q.params.all pmOk) = _)⟩
      obtain ⟨ok4, hok4⟩ : ∃ r, Hid (endsOkB ns q = r) := ⟨_, (rfl : endsOkB ns q = endsOkB ns q)⟩
      have HO : Hid (fnOk ns fs t q = (ok1 && decide (z2 = (t : Int)) && ok3 && ok4)) := by show _ = _; rw [fnOk, hok1.out, hz2.out, hok3.out, hok4.out]
      have cO : Hid (∀ W, Calls Tryz.prog 129 #[.string q.name] W fun e w' => e = .returned (.bool ok1) ∧ Below W.heap.size W w') := fun W => by rw [← hok1.out]; exact implNameOk_any q.name W (Nat.le_trans (Nat.le_trans (le_szFc_name q) hsq) (by unfold maxLen; omega))
      have cF : Hid (∀ W, Below w.heap.size w W → Calls Tryz.prog 130 #[.agg #[.slice na N nc, .slice (some ⟨b, off, none⟩) F fc], .string q.name] W fun e w' => e = .returned (.int .i64 z2) ∧ Below W.heap.size W w') := fun W hW => by
        rw [← hz2.out]
        exact implFnAt_any w.heap.size _ _ fs q.name W hW.size (HV.out.2.keep hW) (by have := HF.out; omega)
      have cP : Hid (∀ W, Below w.heap.size w W → Calls Tryz.prog 131 #[(.slice pa pl pc)] W fun e w' => e = .returned (.bool ok3) ∧ Below W.heap.size W w') := fun W hW => by
        rw [← hok3.out]
        exact paramsOk_any (.slice pa pl pc) q.params W ((hp.keep hW).up hW.size) (Nat.le_trans (le_szFc_params q) hsq)
      have cE : Hid (∀ W, Below w.heap.size w W → Calls Tryz.prog 132 #[.slice na N nc, .agg #[.string q.name, (.slice pa pl pc), .int .i64 q.res, .int .i64 q.body, .int .i64 q.ret]] W fun e w' => e = .returned (.bool ok4) ∧ Below W.heap.size W w') := fun W hW => by
        rw [← hok4.out]
        exact endsOk_any na N nc ns q (.slice pa pl pc) W ((HV.out.1.keep hW).up hW.size) HN
      obtain ⟨fname, fpar, res, body, ret⟩ := q
      simp only at d0 d1 d2 d3 d4 cO cF cE
      clear c0 c1 c2 c3 c4 hp hsq hbw
      go_wp2_with fail
      go_at_call 129
      refine Calls.mono (cO.out _) ?_
      rintro e w1 ⟨rfl, hb1⟩
      have BP : Hid (Box w (.cells #[.slice na N nc, .slice (some ⟨b, off, none⟩) F fc] 27) w1) := (BX.out.alloc _).next hb1
      have BF : Hid (Box wr (.cells #[.string fname, (.slice pa pl pc), .int .i64 res, .int .i64 body, .int .i64 ret] 55) w1) := (Box.first _ _).next hb1
      have hmono : w.heap.size < wr.heap.size := BX.out.lt
      clear hb1 BX cO d0 d1 d2 d3 d4
      cases ok1
      · have HF1 : Hid (fnsTo ns fs F = false) := fnsTo_false hlt (by rw [HG.out, HO.out]; rfl)
        go_wp2
        go_ret
        exact ⟨by rw [HF1.out]; rfl, BP.out.below⟩
      have p0 := BP.out.cell 0
      have p1 := BP.out.cell 1
      have f0 := BF.out.cell 0
      simp at p0 p1 f0
      go_wp2_with fail
      go_at_call 130
      refine Calls.mono (cF.out _ BP.out.below) ?_
      rintro e w2 ⟨rfl, hb2⟩
      have BP2 : Hid (Box w (.cells #[.slice na N nc, .slice (some ⟨b, off, none⟩) F fc] 27) w2) := BP.out.next hb2
      have BF2 : Hid (Box wr (.cells #[.string fname, (.slice pa pl pc), .int .i64 res, .int .i64 body, .int .i64 ret] 55) w2) := BF.out.next hb2
      clear hb2 BP BF cF p0 p1 f0
      by_cases hz2t : z2 = (t : Int)
      · have HO2 : Hid (fnOk ns fs t ⟨fname, fpar, res, body, ret⟩ = (ok3 && ok4)) := by show _ = _; rw [HO.out]; simp [hz2t]
        subst hz2t
        have f1 := BF2.out.cell 1
        simp at f1
        go_wp2_with fail
        go_at_call 131
        refine Calls.mono (cP.out _ BP2.out.below) ?_
        rintro e w3 ⟨rfl, hb3⟩
        have BP3 : Hid (Box w (.cells #[.slice na N nc, .slice (some ⟨b, off, none⟩) F fc] 27) w3) := BP2.out.next hb3
        have BF3 : Hid (Box wr (.cells #[.string fname, (.slice pa pl pc), .int .i64 res, .int .i64 body, .int .i64 ret] 55) w3) := BF2.out.next hb3
        clear hb3 BP2 BF2 cP f1
        cases ok3
        · have HF1 : Hid (fnsTo ns fs F = false) := fnsTo_false hlt (by rw [HG.out, HO2.out]; rfl)
          go_wp2
          go_ret
          exact ⟨by rw [HF1.out]; rfl, BP3.out.below⟩
        have p0 := BP3.out.cell 0
        have f0 := BF3.out.cell 0
        have f1 := BF3.out.cell 1
        have f2 := BF3.out.cell 2
        have f3 := BF3.out.cell 3
        have f4 := BF3.out.cell 4
        simp at p0 f0 f1 f2 f3 f4
        go_wp2_with fail
        go_at_call 132
        refine Calls.mono (cE.out _ BP3.out.below) ?_
        rintro e w4 ⟨rfl, hb4⟩
        have BP4 : Hid (Box w (.cells #[.slice na N nc, .slice (some ⟨b, off, none⟩) F fc] 27) w4) := BP3.out.next hb4
        clear hb4 BP3 BF3 cE p0 f0 f1 f2 f3 f4
        cases ok4
        · have HF1 : Hid (fnsTo ns fs F = false) := fnsTo_false hlt (by rw [HG.out, HO2.out]; rfl)
          go_wp2
          go_ret
          exact ⟨by rw [HF1.out]; rfl, BP4.out.below⟩
        · have HT1 : Hid (fnsTo ns fs (t + 1) = true) := by show _ = _; rw [fnsTo, HT.out, HG.out, HO2.out]; rfl
          go_wp2
          go_roundw
          case rel => exact ⟨t + 1, by omega, by go_num, HT1, BP4⟩
          case measure => simp [intOf]; omega
      · have HF1 : Hid (fnsTo ns fs F = false) := fnsTo_false hlt (by rw [HG.out, HO.out]; simp [hz2t])
        have e1 : (z2 != (t : Int)) = true := by simpa using hz2t
        clear hz2t
        go_wp2
        go_ret
        exact ⟨by rw [HF1.out]; rfl, BP2.out.below⟩
    · have htF : Hid (t = F) := (by omega : t = F)
      have HF1 : Hid (fnsTo ns fs F = true) := by show _ = _; rw [← htF.out]; exact HT.out
      go_wp2
      go_ret
      exact ⟨by rw [HF1.out]; rfl, BX.out.below⟩

end Go.Proofs.YtbanmldmdoedkaaGreatDoor

namespace Go.Proofs.YtbanmldmdoedkaaGreatDoor
open Go.RowKit

theorem heads_len (fs : List Fc) : (heads fs).length ≤ 2 * fs.length := by
  induction fs with
  | nil => simp [heads]
  | cons f fs ih =>
    unfold heads at ih ⊢
    rw [List.flatMap_cons, List.length_append, List.length_cons]
    have : (headsIn f).length ≤ 2 := by unfold headsIn; split <;> simp
    omega

set_option maxRecDepth 100000 in
set_option maxHeartbeats 3200000 in
theorem headsOf_any (na fa : Option Addr) (N nc F fc : Nat) (fs : List Fc) (w : World) (hR : FcR.Row w w.heap.size (.slice fa F fc) fs) (HF : Hid (fs.length = F)) (hNl : N ≤ 1048576) (hFl : F ≤ 1048576) (hk : ∀ t, (ht : t < fs.length) → (0 ≤ fs[t].body ∧ fs[t].body < (N : Int)) ∧ fs[t].ret < (N : Int)) :
    Calls Tryz.prog 76 #[.agg #[.slice na N nc, .slice fa F fc]] w fun e w' => (∃ g, e = .returned (.slice (some ⟨g, 0, none⟩) N N) ∧ OwnsI w' w.heap.size (.slice (some ⟨g, 0, none⟩) N N) (cnt (heads fs) N)) ∧ Below w.heap.size w w' := by
  have HV : Hid (FcR.Row w w.heap.size (.slice fa F fc) fs) := hR
  have HC : Hid (∀ t, (ht : t < fs.length) → (0 ≤ fs[t].body ∧ fs[t].body < (N : Int)) ∧ fs[t].ret < (N : Int)) := hk
  clear hR hk
  obtain ⟨i0, hi, hz0, hz1, hz2⟩ := info_parts Tryz.infoInt
  go_enter Tryz.func76, Tryz.ntmps76
  go_wp2_with (at_make; refine wpList_make_full _ rfl _ _ 85 rfl (w.heap.size + 1) 3 i0 _ 1 Tryz.underlying85 hi hz0 hz1 _ _ _ _ N rfl rfl (by omega) (by omega) (by rw [hz2]; omega) (by unfold maxLen; omega) (by simp) ?_; intro w0 hown0 hg0; have B0 : Hid (Box w (.cells #[.slice na N nc, .slice fa F fc] 27) w0) := (Box.first _ _).next (below_grown hg0); have q1 := B0.out.cell 1; simp at q1)
  clear hi hz0 hz1 hz2
  have hsz0 : (w.alloc (.cells #[.slice na N nc, .slice fa F fc] 27)).heap.size = w.heap.size + 1 := by simp
  rw [hsz0] at hown0
  have HW0 : Hid (OwnsI w0 (w.heap.size + 1) (.slice (some ⟨w.heap.size + 1, 0, none⟩) N N) (cnt (heads (fs.take 0)) N) ∧ Below w.heap.size w w0) := by
    refine ⟨?_, B0.out.below⟩
    unfold OwnsI OwnsR
    rw [List.take_zero, show heads [] = [] from rfl, cnt_nil, List.length_replicate, ← zero_ints]
    exact hown0
  clear hown0 hg0 hsz0 B0
  go_loopw [13] (fun i wr => ∃ t : Nat, t ≤ F ∧ i = .int .i64 (t : Int) ∧ Hid (OwnsI wr (w.heap.size + 1) (.slice (some ⟨w.heap.size + 1, 0, none⟩) N N) (cnt (heads (fs.take t)) N) ∧ Below w.heap.size w wr)) (fun i _ => F - (intOf i).toNat)
  case atStart => exact ⟨0, Nat.zero_le _, rfl, HW0⟩
  case round =>
    obtain ⟨t, ht, rfl, HJ⟩ := hrel
    clear HW0 q1
    by_cases hlt : t < F
    · have ht1 : (t : Int) < (F : Int) := by omega
      have ht0 : (0 : Int) ≤ (t : Int) := by omega
      have htl : t < fs.length := by have := HF.out; omega
      obtain ⟨b, off, pv, rfl, hb, c0, c1, c2, c3, c4, hp⟩ := FcR.at HV.out t htl
      have hnx : Hid (heads (fs.take (t + 1)) = heads (fs.take t) ++ headsIn fs[t]) := heads_take fs t htl
      have hcb := HC.out t htl
      have hln : (heads (fs.take t)).length ≤ 2097152 := by
        have := heads_len (fs.take t)
        have h2 : (fs.take t).length ≤ t := List.length_take_le _ _
        omega
      obtain ⟨q, hqe⟩ : ∃ q, Hid (fs[t] = q) := ⟨_, (rfl : fs[t] = fs[t])⟩
      rw [hqe.out] at c0 c2 c3 c4 hp hnx hcb
      obtain ⟨pa, pc, hpv⟩ := hp.len
      obtain ⟨pl, hpl⟩ : ∃ n, Hid (q.params.length = n) := ⟨_, (rfl : q.params.length = q.params.length)⟩
      rw [hpl.out] at hpv
      subst hpv
      have hbw := HJ.out.2
      have d0 := (hbw.cell (p := ⟨b, off + t * 5, none⟩) hb).trans c0
      have d1 := (hbw.cell (p := ⟨b, off + t * 5 + 1, none⟩) hb).trans c1
      have d2 := (hbw.cell (p := ⟨b, off + t * 5 + 2, none⟩) hb).trans c2
      have d3 := (hbw.cell (p := ⟨b, off + t * 5 + 3, none⟩) hb).trans c3
      have d4 := (hbw.cell (p := ⟨b, off + t * 5 + 4, none⟩) hb).trans c4
      have hsz := hbw.size
      obtain ⟨L, hL⟩ : ∃ L, Hid (heads (fs.take t) = L) := ⟨_, (rfl : heads (fs.take t) = heads (fs.take t))⟩
      rw [hL.out] at HJ hnx hln
      obtain ⟨fname, fpar, res, body, ret⟩ := q
      simp only at d0 d1 d2 d3 d4 hcb hnx
      clear c0 c1 c2 c3 c4 hp hbw
      obtain ⟨bn, rfl⟩ : ∃ bn : Nat, body = (bn : Int) := ⟨body.toNat, by omega⟩
      have hb0 : (0 : Int) ≤ (bn : Int) := by omega
      have hb1 : (bn : Int) < (N : Int) := hcb.1.2
      have hbn : bn < N := by omega
      have hr1 : ret < (N : Int) := hcb.2
      have hgl : w.heap.size + 1 < wr.heap.size := (OwnsR.lt HJ.out.1 (w.heap.size + 1) (by simp [fpOf, Value.ownBlock])).2
      obtain ⟨y, hy⟩ : ∃ y, Hid ((cnt L N)[bn]'(by rw [cnt_len]; exact hbn) = y) := ⟨_, (rfl : (cnt L N)[bn]'(by rw [cnt_len]; exact hbn) = _)⟩
      have hyb := cnt_bound L N bn hbn
      rw [hy.out] at hyb
      have hy0 := hyb.1
      have hy1 : y ≤ 2097152 := by omega
      have hw1 : ∀ o1, OwnsI (wr.alloc o1) (w.heap.size + 1) (.slice (some ⟨w.heap.size + 1, 0, none⟩) N N) (cnt L N) := fun o1 => World.ownsRow.alloc HJ.out.1 o1
      have g1 := fun o1 => OwnsI.cellAt (hw1 o1) (cnt_len _ N).symm bn (by rw [cnt_len]; exact hbn) y hy.out
      have g2 := fun o1 => OwnsI.freeAt (hw1 o1) (cnt_len _ N).symm bn
      have S1 : Hid (∀ o1, OwnsI ((wr.setCell ⟨w.heap.size + 1, bn, none⟩ (.int .i64 (y + 1))).alloc o1) (w.heap.size + 1) (.slice (some ⟨w.heap.size + 1, 0, none⟩) N N) (cnt (L ++ [(bn : Int)]) N)) := fun o1 => by
        have := OwnsI.set HJ.out.1 (cnt_len _ N).symm bn (by rw [cnt_len]; exact hbn) (y + 1)
        rw [cnt_step _ N bn hbn y hy.out] at this
        exact World.ownsRow.alloc this o1
      have SB1 : Hid (∀ o1, Below w.heap.size w ((wr.setCell ⟨w.heap.size + 1, bn, none⟩ (.int .i64 (y + 1))).alloc o1)) := fun o1 => (HJ.out.2.setCell (p := ⟨w.heap.size + 1, bn, none⟩) (by show _ ≤ _; simp) _).alloc (by simpa using hsz) o1
      clear hw1 hyb hcb
      by_cases hr0 : ret < 0
      · have HN1 : Hid (heads (fs.take (t + 1)) = L ++ [(bn : Int)]) := by show _ = _; rw [hnx.out, headsIn, if_neg (by simp only; omega)]
        go_wp2
        go_roundw
        case rel =>
          refine ⟨t + 1, by omega, by go_num, ?_⟩
          show _ ∧ _
          rw [HN1.out]
          exact ⟨S1.out _, SB1.out _⟩
        case measure => simp [intOf]; omega
      · obtain ⟨rn, rfl⟩ : ∃ rn : Nat, ret = (rn : Int) := ⟨ret.toNat, by omega⟩
        have hr00 : (0 : Int) ≤ (rn : Int) := by omega
        have hrn : rn < N := by omega
        have HN1 : Hid (heads (fs.take (t + 1)) = L ++ [(bn : Int)] ++ [(rn : Int)]) := by show _ = _; rw [hnx.out, headsIn, if_pos (by simp only; omega), List.append_assoc]; rfl
        obtain ⟨x, hx⟩ : ∃ y, Hid ((cnt (L ++ [(bn : Int)]) N)[rn]'(by rw [cnt_len]; exact hrn) = y) := ⟨_, (rfl : (cnt (L ++ [(bn : Int)]) N)[rn]'(by rw [cnt_len]; exact hrn) = _)⟩
        have hxb := cnt_bound (L ++ [(bn : Int)]) N rn hrn
        rw [hx.out, List.length_append] at hxb
        simp only [List.length_singleton] at hxb
        have hx0 := hxb.1
        have hx1 : x ≤ 2097153 := by omega
        have k1 := fun o1 => OwnsI.cellAt (S1.out o1) (cnt_len _ N).symm rn (by rw [cnt_len]; exact hrn) x hx.out
        have k2 := fun o1 => OwnsI.freeAt (S1.out o1) (cnt_len _ N).symm rn
        have S2 : Hid (∀ o1, OwnsI (((wr.setCell ⟨w.heap.size + 1, bn, none⟩ (.int .i64 (y + 1))).setCell ⟨w.heap.size + 1, rn, none⟩ (.int .i64 (x + 1))).alloc o1) (w.heap.size + 1) (.slice (some ⟨w.heap.size + 1, 0, none⟩) N N) (cnt (L ++ [(bn : Int)] ++ [(rn : Int)]) N)) := fun o1 => by
          have h0 := OwnsI.set HJ.out.1 (cnt_len _ N).symm bn (by rw [cnt_len]; exact hbn) (y + 1)
          rw [cnt_step _ N bn hbn y hy.out] at h0
          have := OwnsI.set h0 (cnt_len _ N).symm rn (by rw [cnt_len]; exact hrn) (x + 1)
          rw [cnt_step _ N rn hrn x hx.out] at this
          exact World.ownsRow.alloc this o1
        have SB2 : Hid (∀ o1, Below w.heap.size w (((wr.setCell ⟨w.heap.size + 1, bn, none⟩ (.int .i64 (y + 1))).setCell ⟨w.heap.size + 1, rn, none⟩ (.int .i64 (x + 1))).alloc o1)) := fun o1 => ((HJ.out.2.setCell (p := ⟨w.heap.size + 1, bn, none⟩) (by show _ ≤ _; simp) _).setCell (p := ⟨w.heap.size + 1, rn, none⟩) (by show _ ≤ _; simp) _).alloc (by simpa using hsz) o1
        clear hxb
        go_wp2
        go_roundw
        case rel =>
          refine ⟨t + 1, by omega, by go_num, ?_⟩
          show _ ∧ _
          rw [HN1.out]
          exact ⟨S2.out _, SB2.out _⟩
        case measure => simp [intOf]; omega
    · have htm : Hid (t = F) := (by omega : t = F)
      have HF2 : Hid (OwnsI wr w.heap.size (.slice (some ⟨w.heap.size + 1, 0, none⟩) N N) (cnt (heads fs) N) ∧ Below w.heap.size w wr) := by
        have := HJ.out
        rw [htm.out, ← HF.out, List.take_length] at this
        exact ⟨owns_base this.1 (by omega), this.2⟩
      go_wp2
      go_ret
      exact ⟨⟨_, rfl, HF2.out.1⟩, HF2.out.2⟩

theorem hangs_false {ns : List Nd} {fs : List Fc} {j : Nat} (hj : j < ns.length) (h : ¬ (allKids ns).count (j : Int) + (heads fs).count (j : Int) = 1) : hangs ns fs = false := by
  unfold hangs
  rw [← Bool.not_eq_true, List.all_eq_true]
  intro hh
  have := hh j (by simpa using hj)
  simp at this
  exact h this
theorem hangs_true {ns : List Nd} {fs : List Fc} (h : ∀ j, j < ns.length → (allKids ns).count (j : Int) + (heads fs).count (j : Int) = 1) : hangs ns fs = true := by
  unfold hangs
  rw [List.all_eq_true]
  intro j hj
  have := h j (by simpa using hj)
  simpa using this
/-- Where functions are right, Bodies and Rets are nodes. -/
theorem heads_in {ns : List Nd} {fs : List Fc} (h : fnsTo ns fs fs.length = true) (t : Nat) (ht : t < fs.length) : (0 ≤ fs[t].body ∧ fs[t].body < (ns.length : Int)) ∧ fs[t].ret < (ns.length : Int) := by
  have h1 := fnsTo_at h t ht
  have he : fs.getD t ⟨ByteArray.empty, [], 0, 0, 0⟩ = fs[t] := by simp [List.getD, ht]
  rw [he] at h1
  unfold fnOk at h1
  simp only [Bool.and_eq_true] at h1
  have h2 := h1.2
  unfold endsOkB at h2
  simp only [Bool.and_eq_true] at h2
  have hb := h2.1.1
  simp [isIn] at hb
  refine ⟨by omega, ?_⟩
  have hr := h2.2
  split at hr
  · simp at hr
    omega
  · split at hr
    · simp [isIn] at hr
      omega
    · cases hr

set_option maxRecDepth 100000 in
set_option maxHeartbeats 3200000 in
theorem implProgramOk_any (v0 v1 : Value) (p : Pg) (w : World) (hR : RowPg w w.heap.size v0 v1 p) (hl : szPg p ≤ 1048576) :
    Calls Tryz.prog 33 #[.agg #[v0, v1]] w fun e w' => e = .returned (.bool (programOk p)) ∧ Below w.heap.size w w' := by
  obtain ⟨res, hres⟩ : ∃ r, Hid (programOk p = r) := ⟨_, (rfl : programOk p = programOk p)⟩
  rw [hres.out]
  have cF : Hid (∀ W, Below w.heap.size w W → Calls Tryz.prog 74 #[.agg #[v0, v1]] W fun e w' => e = .returned (.bool (isIn (p.fns.length : Int) 1 8 && fnsTo p.nodes p.fns p.fns.length)) ∧ Below W.heap.size W w') := fun W hW => fnsOk_any v0 v1 p W ((hR.keep hW).up hW.size) hl
  obtain ⟨ns, fs⟩ := p
  simp only at cF
  have hfl : szRow szFc fs ≤ 1048576 := Nat.le_trans (le_szPg_fns ⟨ns, fs⟩) hl
  have hnl : szRow szNd ns ≤ 1048576 := Nat.le_trans (le_szPg_nodes ⟨ns, fs⟩) hl
  have HV : Hid (RowPg w w.heap.size v0 v1 ⟨ns, fs⟩) := hR
  obtain ⟨na, nc, rfl⟩ := hR.1.len
  obtain ⟨fa, fc, rfl⟩ := hR.2.len
  simp only at HV cF ⊢
  obtain ⟨N, HN⟩ : ∃ N, Hid (ns.length = N) := ⟨_, (rfl : ns.length = ns.length)⟩
  obtain ⟨F, HF⟩ : ∃ F, Hid (fs.length = F) := ⟨_, (rfl : fs.length = fs.length)⟩
  have HP : Hid (res = (isIn (N : Int) 1 300 && isIn (F : Int) 1 8 && decide (deepOf ns ((N : Int) - 1) ≠ 0) && fnsTo ns fs F && hangs ns fs)) := by
    show _ = _
    rw [← hres.out, programOk, HN.out, HF.out]
  rw [HN.out, HF.out] at HV cF ⊢
  have hNl : N ≤ 1048576 := by have := len_szRow szNd ns; have := HN.out; omega
  have hFl : F ≤ 1048576 := by have := len_szRow szFc fs; have := HF.out; omega
  have HL : Hid (szRow szNd ns ≤ 1048576) := hnl
  clear hR hl hfl hnl
  by_cases h300 : (300 : Int) < (N : Int)
  · have HE : Hid (res = false) := by show _ = _; rw [HP.out, isIn_off (by omega)]; rfl
    go_enter Tryz.func33, Tryz.ntmps33
    go_wp2
    go_ret
    exact ⟨by rw [HE.out]; rfl, by go_grown⟩
  obtain ⟨d, hd⟩ : ∃ d, Hid (deepOf ns ((N : Int) - 1) = d) := ⟨_, (rfl : deepOf ns ((N : Int) - 1) = deepOf ns ((N : Int) - 1))⟩
  have cD : Hid (∀ W, Below w.heap.size w W → Calls Tryz.prog 47 #[.slice na N nc, .int .i64 ((N : Int) - 1)] W fun e w' => e = .returned (.int .i64 d) ∧ Below W.heap.size W w') := fun W hW => by
    rw [← hd.out]
    exact implDeepOf_any _ ns _ W ((HV.out.1.keep hW).up hW.size) HL.out
  go_enter Tryz.func33, Tryz.ntmps33
  go_wp2_with fail
  go_at_call 47
  refine Calls.mono (cD.out _ (by go_grown)) ?_
  rintro e w1 ⟨rfl, hb1⟩
  have B1 : Hid (Box w (.cells #[.slice na N nc, .slice fa F fc] 27) w1) := (Box.first _ _).next hb1
  clear hb1 cD
  by_cases hd0 : d = 0
  · have HE : Hid (res = false) := by show _ = _; rw [HP.out, hd.out, hd0]; simp
    subst hd0
    go_wp2
    go_ret
    exact ⟨by rw [HE.out]; rfl, B1.out.below⟩
  have hN1 : 1 ≤ N := by
    rcases Nat.eq_zero_or_pos N with e | e
    · exfalso
      apply hd0
      rw [← hd.out]
      exact deepOf_out (by omega)
    · exact e
  have hd1 : (d == 0) = false := by simpa using hd0
  obtain ⟨fo, hfo⟩ : ∃ r, Hid ((isIn (F : Int) 1 8 && fnsTo ns fs F) = r) := ⟨_, (rfl : (isIn (F : Int) 1 8 && fnsTo ns fs F) = _)⟩
  rw [hfo.out] at cF
  have HP2 : Hid (res = (fo && hangs ns fs)) := by
    show _ = _
    rw [HP.out, hd.out, ← hfo.out, isIn_yes (by omega) (by omega)]
    simp [hd0]
  have q0 := B1.out.cell 0
  have q1 := B1.out.cell 1
  simp at q0 q1
  go_wp2_with fail
  go_at_call 74
  refine Calls.mono (cF.out _ B1.out.below) ?_
  rintro e w2 ⟨rfl, hb2⟩
  have B2 : Hid (Box w (.cells #[.slice na N nc, .slice fa F fc] 27) w2) := B1.out.next hb2
  clear hb2 cF B1 q0 q1
  cases fo
  · have HE : Hid (res = false) := by show _ = _; rw [HP2.out]; rfl
    go_wp2
    go_ret
    exact ⟨by rw [HE.out]; rfl, B2.out.below⟩
  rw [Bool.true_and] at HP2
  have hne : deepOf ns (((N - 1 : Nat)) : Int) ≠ 0 := by
    rw [show (((N - 1 : Nat)) : Int) = (N : Int) - 1 by omega, hd.out]
    exact hd0
  have HKI : Hid (∀ t, (ht : t < ns.length) → ∀ c ∈ ns[t].kids, 0 ≤ c ∧ c < (N : Int)) := fun t ht c hc => by
    have h1 := kids_in ht (deep_nodes (by rw [HN.out]; omega) hne t (by have := HN.out; omega)) c hc
    have := HN.out
    omega
  have HHI : Hid (∀ t, (ht : t < fs.length) → (0 ≤ fs[t].body ∧ fs[t].body < (N : Int)) ∧ fs[t].ret < (N : Int)) := fun t ht => by
    have h1 := hfo.out
    simp only [Bool.and_eq_true] at h1
    rw [← HN.out]
    exact heads_in (by rw [HF.out]; exact h1.2) t ht
  have cP : Hid (∀ W, Below w.heap.size w W → Calls Tryz.prog 75 #[.slice na N nc] W fun e w' => (∃ g, e = .returned (.slice (some ⟨g, 0, none⟩) N N) ∧ OwnsI w' W.heap.size (.slice (some ⟨g, 0, none⟩) N N) (cnt (allKids ns) N)) ∧ Below W.heap.size W w') := fun W hW =>
    parentsOf_any na N nc ns W ((HV.out.1.keep hW).up hW.size) HN HL.out HKI.out
  have cH : Hid (∀ W, Below w.heap.size w W → Calls Tryz.prog 76 #[.agg #[.slice na N nc, .slice fa F fc]] W fun e w' => (∃ g, e = .returned (.slice (some ⟨g, 0, none⟩) N N) ∧ OwnsI w' W.heap.size (.slice (some ⟨g, 0, none⟩) N N) (cnt (heads fs) N)) ∧ Below W.heap.size W w') := fun W hW =>
    headsOf_any na fa N nc F fc fs W ((HV.out.2.keep hW).up hW.size) HF hNl hFl HHI.out
  have HCB : Hid ((allKids ns).length ≤ 1048576 ∧ (heads fs).length ≤ 2097152) := by
    refine ⟨?_, ?_⟩
    · have h1 := kids_le ns
      have h2 := HL.out
      unfold szRow at h2
      omega
    · have := heads_len fs
      have := HF.out
      omega
  have q0 := B2.out.cell 0
  simp at q0
  clear hne hd0
  go_wp2_with fail
  go_at_call 75
  refine Calls.mono (cP.out _ B2.out.below) ?_
  rintro e w3 ⟨⟨g, rfl, ho⟩, hb3⟩
  have B3 : Hid (Box w (.cells #[.slice na N nc, .slice fa F fc] 27) w3) := B2.out.next hb3
  have O3 : Hid (OwnsI w3 w2.heap.size (.slice (some ⟨g, 0, none⟩) N N) (cnt (allKids ns) N)) := ho
  clear hb3 cP B2 q0 ho
  have q0 := B3.out.cell 0
  have q1 := B3.out.cell 1
  simp at q0 q1
  go_wp2_with fail
  go_at_call 76
  refine Calls.mono (cH.out _ B3.out.below) ?_
  rintro e w4 ⟨⟨g', rfl, ho⟩, hb4⟩
  have B4 : Hid (Box w (.cells #[.slice na N nc, .slice fa F fc] 27) w4) := B3.out.next hb4
  have O4 : Hid (OwnsI w4 w2.heap.size (.slice (some ⟨g, 0, none⟩) N N) (cnt (allKids ns) N) ∧ OwnsI w4 w3.heap.size (.slice (some ⟨g', 0, none⟩) N N) (cnt (heads fs) N)) := ⟨OwnsR.below O3.out hb4, ho⟩
  clear hb4 cH B3 q0 q1 ho O3
  have q0 := B4.out.cell 0
  simp at q0
  go_wp2_with fail
  go_loopw [33] (fun i wr => ∃ t : Nat, t ≤ N ∧ i = .int .i64 (t : Int) ∧ Hid (∀ j, j < t → (allKids ns).count (j : Int) + (heads fs).count (j : Int) = 1) ∧ Hid (Below w4.heap.size w4 wr)) (fun i _ => N - (intOf i).toNat)
  case atStart => exact ⟨0, Nat.zero_le _, rfl, fun j hj => by omega, Below.refl _ _⟩
  case round =>
    obtain ⟨t, ht, rfl, HT, HB⟩ := hrel
    have HBw : Hid (Below w.heap.size w wr) := B4.out.below.trans (HB.out.mono B4.out.below.size)
    by_cases hlt : t < N
    · have ht1 : (t : Int) < (N : Int) := by omega
      have ht0 : (0 : Int) ≤ (t : Int) := by omega
      obtain ⟨x, hx⟩ : ∃ x : Nat, Hid ((allKids ns).count (t : Int) = x) := ⟨_, (rfl : (allKids ns).count (t : Int) = (allKids ns).count (t : Int))⟩
      obtain ⟨y, hy⟩ : ∃ y : Nat, Hid ((heads fs).count (t : Int) = y) := ⟨_, (rfl : (heads fs).count (t : Int) = (heads fs).count (t : Int))⟩
      have hxb : x ≤ 1048576 := by rw [← hx.out]; exact Nat.le_trans List.count_le_length HCB.out.1
      have hyb : y ≤ 2097152 := by rw [← hy.out]; exact Nat.le_trans List.count_le_length HCB.out.2
      have c0 := OwnsI.cellAt (OwnsR.below O4.out.1 HB.out) (cnt_len _ N).symm t (by rw [cnt_len]; exact hlt) (x : Int) (by rw [cnt_at _ _ _ hlt, hx.out])
      have c1 := OwnsI.cellAt (OwnsR.below O4.out.2 HB.out) (cnt_len _ N).symm t (by rw [cnt_len]; exact hlt) (y : Int) (by rw [cnt_at _ _ _ hlt, hy.out])
      clear q0
      by_cases h1 : x + y = 1
      · have hs : (x : Int) + (y : Int) = 1 := by omega
        have hs2 : ((x : Int) + (y : Int) != 1) = false := by simp [hs]
        have HT1 : Hid (∀ j, j < t + 1 → (allKids ns).count (j : Int) + (heads fs).count (j : Int) = 1) := fun j hj => by
          rcases Nat.lt_or_ge j t with h | h
          · exact HT.out j h
          · have : j = t := by omega
            subst this
            rw [hx.out, hy.out]
            exact h1
        clear hs h1
        go_wp2_with fail
        go_quiet (fail)
        go_wp2
        go_roundw
        case rel => exact ⟨t + 1, by omega, by go_num, HT1, below_drewN HB.out _⟩
        case measure => simp [intOf]; omega
      · have HE : Hid (res = false) := by show _ = _; rw [HP2.out]; exact hangs_false (j := t) (by rw [HN.out]; exact hlt) (by rw [hx.out, hy.out]; exact h1)
        have hs2 : ((x : Int) + (y : Int) != 1) = true := by simp; omega
        clear h1
        go_wp2_with fail
        go_quiet (fail)
        go_wp2
        go_ret
        exact ⟨by rw [HE.out]; rfl, below_drewN HBw.out _⟩
    · have HE : Hid (res = true) := by show _ = _; rw [HP2.out]; exact hangs_true (fun j hj => HT.out j (by have := HN.out; omega))
      go_wp2
      go_ret
      exact ⟨by rw [HE.out]; rfl, HBw.out⟩

end Go.Proofs.YtbanmldmdoedkaaGreatDoor

namespace Go.Proofs.YtbanmldmdoedkaaGreatDoor
open Go.RowKit

theorem endsOkB_res {ns : List Nd} {f : Fc} (h : f.res < 0 ∨ 2 < f.res) : endsOkB ns f = false := by
  unfold endsOkB
  rw [if_neg (by omega), if_neg (by omega), Bool.and_false]

set_option maxRecDepth 100000 in
set_option maxHeartbeats 6400000 in
theorem l04Fn_any (na fa : Option Addr) (N nc F fc t : Nat) (ns : List Nd) (fs : List Fc) (w : World) (hR : RowPg w w.heap.size (.slice na N nc) (.slice fa F fc) ⟨ns, fs⟩) (HN : Hid (ns.length = N)) (HF : Hid (fs.length = F)) (hNl : N ≤ 1048576) (hFl : F ≤ 1048576) (hfl : szRow szFc fs ≤ 1048576) (hlt : t < F) (q : Fc) (hqe : Hid (fs[t]'(by rw [HF.out]; exact hlt) = q)) :
    Calls Tryz.prog 66 #[.agg #[.slice na N nc, .slice fa F fc], .int .i64 (t : Int)] w fun e w' => e = .returned (.bool (fnOk ns fs t q)) ∧ Below w.heap.size w w' := by
  have HV : Hid (RowPg w w.heap.size (.slice na N nc) (.slice fa F fc) ⟨ns, fs⟩) := hR
  have ht1 : (t : Int) < (F : Int) := by omega
  have ht0 : (0 : Int) ≤ (t : Int) := by omega
  have htl : t < fs.length := by have := HF.out; omega
  obtain ⟨b, off, pv, rfl, hb, c0, c1, c2, c3, c4, hp⟩ := FcR.at hR.2 t htl
  simp only at c0 c1 c2 c3 c4 hp
  have hsq : szFc q ≤ 1048576 := by rw [← hqe.out]; exact Nat.le_trans (mem_szRow szFc (List.getElem_mem htl)) hfl
  rw [hqe.out] at c0 c2 c3 c4 hp
  obtain ⟨pa, pc, hpv⟩ := hp.len
  obtain ⟨pl, hpl⟩ : ∃ n, Hid (q.params.length = n) := ⟨_, (rfl : q.params.length = q.params.length)⟩
  rw [hpl.out] at hpv
  subst hpv
  have hpll : pl ≤ 1048576 := by
    have h1 := Nat.le_trans (len_szRow szPm q.params) (Nat.le_trans (le_szFc_params q) hsq)
    rw [hpl.out] at h1
    exact h1
  obtain ⟨ok1, hok1⟩ : ∃ r, Hid (nameOk q.name = r) := ⟨_, (rfl : nameOk q.name = nameOk q.name)⟩
  obtain ⟨z2, hz2⟩ : ∃ r, Hid (fnAt fs q.name = r) := ⟨_, (rfl : fnAt fs q.name = fnAt fs q.name)⟩
  have cO : Hid (∀ W, Calls Tryz.prog 110 #[.string q.name] W fun e w' => e = .returned (.bool ok1) ∧ Below W.heap.size W w') := fun W => by rw [← hok1.out]; exact specNameOk_any q.name W (Nat.le_trans (le_szFc_name q) hsq)
  have cF : Hid (∀ W, Below w.heap.size w W → Calls Tryz.prog 111 #[.agg #[.slice na N nc, .slice (some ⟨b, off, none⟩) F fc], .string q.name] W fun e w' => e = .returned (.int .i64 z2) ∧ Below W.heap.size W w') := fun W hW => by
    rw [← hz2.out]
    exact specFnAt_any w.heap.size _ _ fs q.name W hW.size (HV.out.2.keep hW) (by have := HF.out; omega)
  have HPM : Hid (PmR.Row w w.heap.size (.slice pa pl pc) q.params ∧ szRow szPm q.params ≤ 1048576) := ⟨hp, Nat.le_trans (le_szFc_params q) hsq⟩
  obtain ⟨out, hout⟩ : ∃ r, Hid (fnOk ns fs t q = r) := ⟨_, (rfl : fnOk ns fs t q = fnOk ns fs t q)⟩
  rw [hout.out]
  have HO : Hid (out = (ok1 && decide (z2 = (t : Int)) && (decide (pl ≤ 3) && q.params.all pmOk) && endsOkB ns q)) := by show _ = _; rw [← hout.out, fnOk, hok1.out, hz2.out, hpl.out]
  have HRes : Hid (q.res < 0 ∨ 2 < q.res → out = false) := fun h => by rw [HO.out, endsOkB_res h, Bool.and_false]
  obtain ⟨fname, fpar, res, body, ret⟩ := q
  simp only at c0 c2 c3 c4 cO cF HO HRes HPM hpl
  clear hp hsq hR
  go_enter Tryz.func66, Tryz.ntmps66
  go_wp2_with fail
  go_at_call 110
  refine Calls.mono (cO.out _) ?_
  rintro e w1 ⟨rfl, hb1⟩
  have BP1 : Hid (Box w (.cells #[.slice na N nc, .slice (some ⟨b, off, none⟩) F fc] 27) w1) := ((Box.first _ _).alloc _).next hb1
  have BF1 : Hid (Box (w.alloc (.cells #[.slice na N nc, .slice (some ⟨b, off, none⟩) F fc] 27)) (.cells #[.string fname, .slice pa pl pc, .int .i64 res, .int .i64 body, .int .i64 ret] 55) w1) := (Box.first _ _).next hb1
  have hs1 : (w.alloc (.cells #[.slice na N nc, .slice (some ⟨b, off, none⟩) F fc] 27)).heap.size = w.heap.size + 1 := by simp
  have HFC : Hid (∀ W j, Box (w.alloc (.cells #[.slice na N nc, .slice (some ⟨b, off, none⟩) F fc] 27)) (.cells #[.string fname, .slice pa pl pc, .int .i64 res, .int .i64 body, .int .i64 ret] 55) W → W.cell? ⟨w.heap.size + 1, j, none⟩ = #[.string fname, .slice pa pl pc, .int .i64 res, .int .i64 body, .int .i64 ret][j]?) := fun W j h => by rw [← hs1]; exact h.cell j
  generalize hwA : w.alloc (.cells #[.slice na N nc, .slice (some ⟨b, off, none⟩) F fc] 27) = wA at BF1 HFC hs1
  clear hb1 cO c0 c1 c2 c3 c4 hwA hs1
  cases ok1
  · have HE : Hid (out = false) := by show _ = _; rw [HO.out]; rfl
    go_wp2
    go_ret
    exact ⟨by rw [HE.out]; rfl, BP1.out.below⟩
  have p0 := BP1.out.cell 0
  have p1 := BP1.out.cell 1
  have f0 := HFC.out _ 0 BF1.out
  simp at p0 p1 f0
  go_wp2_with fail
  go_at_call 111
  refine Calls.mono (cF.out _ BP1.out.below) ?_
  rintro e w2 ⟨rfl, hb2⟩
  have BP2 : Hid (Box w (.cells #[.slice na N nc, .slice (some ⟨b, off, none⟩) F fc] 27) w2) := BP1.out.next hb2
  have BF2 : Hid (Box wA (.cells #[.string fname, .slice pa pl pc, .int .i64 res, .int .i64 body, .int .i64 ret] 55) w2) := BF1.out.next hb2
  clear hb2 cF BP1 BF1 p0 p1 f0
  by_cases hz2t : z2 = (t : Int)
  rotate_left
  · have HE : Hid (out = false) := by show _ = _; rw [HO.out]; simp [hz2t]
    have e1 : (z2 != (t : Int)) = true := by simpa using hz2t
    clear hz2t
    go_wp2
    go_ret
    exact ⟨by rw [HE.out]; rfl, BP2.out.below⟩
  subst hz2t
  have f1 := HFC.out _ 1 BF2.out
  have f2 := HFC.out _ 2 BF2.out
  simp at f1 f2
  by_cases h3 : (3 : Int) < (pl : Int)
  · have HE : Hid (out = false) := by show _ = _; rw [HO.out, show decide (pl ≤ 3) = false by simp; omega]; simp
    go_wp2
    go_ret
    exact ⟨by rw [HE.out]; rfl, BP2.out.below⟩
  have HO2 : Hid (out = (fpar.all pmOk && endsOkB ns ⟨fname, fpar, res, body, ret⟩)) := by show _ = _; rw [HO.out, show decide (pl ≤ 3) = true by simp; omega]; simp
  rcases isIn_cases res 0 2 with ⟨_, hres⟩ | ⟨_, hres0, hres2⟩
  · have HE : Hid (out = false) := HRes.out hres
    go_wp2_with (go_at_call 63; refine (l01In_no _ _ _ _ hres).mono ?_; rintro e w1 ⟨rfl, rfl⟩)
    go_ret
    exact ⟨by rw [HE.out]; rfl, BP2.out.below⟩
  clear HRes HO
  go_wp2_with (go_at_call 63; refine (l01In_yes _ _ _ _ hres0 hres2).mono ?_; rintro e w1 ⟨rfl, rfl⟩)
  go_loopw [6] (fun i wr => ∃ k : Nat, k ≤ pl ∧ i = .int .i64 (k : Int) ∧ Hid (∀ j, (hj : j < fpar.length) → j < k → pmOk fpar[j] = true) ∧ Hid (Box w (.cells #[.slice na N nc, .slice (some ⟨b, off, none⟩) F fc] 27) wr ∧ Box wA (.cells #[.string fname, .slice pa pl pc, .int .i64 res, .int .i64 body, .int .i64 ret] 55) wr)) (fun i _ => pl - (intOf i).toNat)
  case atStart => exact ⟨0, Nat.zero_le _, rfl, fun j _ hj => by omega, ⟨BP2.out, BF2.out⟩⟩
  case round =>
    obtain ⟨k, hk, rfl, HK, BB⟩ := hrel
    clear f1 f2
    have f1 := HFC.out _ 1 BB.out.2
    simp at f1
    by_cases hkl : k < pl
    · have hk1 : (k : Int) < (pl : Int) := by omega
      have hk0 : (0 : Int) ≤ (k : Int) := by omega
      have hkp : k < fpar.length := by have := hpl.out; omega
      obtain ⟨pb, po, rfl, hpb, c0, c1⟩ := PmR.at HPM.out.1 k hkp
      have hqs : fpar[k].name.size ≤ 1048576 := Nat.le_trans (Nat.le_trans (le_szPm_name _) (mem_szRow szPm (List.getElem_mem hkp))) HPM.out.2
      obtain ⟨q, hqe'⟩ : ∃ q, Hid (fpar[k] = q) := ⟨_, (rfl : fpar[k] = fpar[k])⟩
      rw [hqe'.out] at c0 c1 hqs
      have hbw := BB.out.1.below
      have d0 := (hbw.cell (p := ⟨pb, po + k * 2, none⟩) hpb).trans c0
      obtain ⟨nm, ty⟩ := q
      simp only at d0 c1 hqs
      obtain ⟨ok, hok⟩ : ∃ r, Hid (nameOk nm = r) := ⟨_, (rfl : nameOk nm = nameOk nm)⟩
      have cN : Hid (∀ W, Calls Tryz.prog 110 #[.string nm] W fun e w' => e = .returned (.bool ok) ∧ Below W.heap.size W w') := fun W => by rw [← hok.out]; exact specNameOk_any nm W hqs
      have HP : Hid (pmOk ⟨nm, ty⟩ = (ok && isIn ty 1 4)) := by show _ = _; rw [pmOk, hok.out]
      clear c0 hbw
      go_wp2_with fail
      go_at_call 110
      refine Calls.mono (cN.out _) ?_
      rintro e w3 ⟨rfl, hb3⟩
      have BB3 : Hid (Box w (.cells #[.slice na N nc, .slice (some ⟨b, off, none⟩) F fc] 27) w3 ∧ Box wA (.cells #[.string fname, .slice (some ⟨pb, po, none⟩) pl pc, .int .i64 res, .int .i64 body, .int .i64 ret] 55) w3) := ⟨BB.out.1.next hb3, BB.out.2.next hb3⟩
      have d1 := (BB3.out.1.below.cell (p := ⟨pb, po + k * 2 + 1, none⟩) hpb).trans c1
      clear hb3 cN BB d0 c1 f1
      have f1 := HFC.out _ 1 BB3.out.2
      simp at f1
      cases ok
      · have HE : Hid (out = false) := by show _ = _; rw [HO2.out, pms_false hkp (by rw [hqe'.out, HP.out]; rfl)]; rfl
        go_wp2
        go_ret
        exact ⟨by rw [HE.out]; rfl, BB3.out.1.below⟩
      rcases isIn_cases ty 1 4 with ⟨hi, hty⟩ | ⟨hi, hty1, hty4⟩
      · have HE : Hid (out = false) := by show _ = _; rw [HO2.out, pms_false hkp (by rw [hqe'.out, HP.out, hi]; rfl)]; rfl
        go_wp2_with (go_at_call 63; refine (l01In_no _ _ _ _ hty).mono ?_; rintro e w1 ⟨rfl, rfl⟩)
        go_ret
        exact ⟨by rw [HE.out]; rfl, BB3.out.1.below⟩
      · have HK1 : Hid (∀ j, (hj : j < fpar.length) → j < k + 1 → pmOk fpar[j] = true) := fun j hj hjk => by
          by_cases e : j = k
          · subst e
            rw [hqe'.out, HP.out, hi]
            rfl
          · exact HK.out j hj (by omega)
        clear hi
        go_wp2_with (go_at_call 63; refine (l01In_yes _ _ _ _ hty1 hty4).mono ?_; rintro e w1 ⟨rfl, rfl⟩)
        go_roundw
        case rel => exact ⟨k + 1, by omega, by go_num, HK1, BB3⟩
        case measure => simp [intOf]; omega
    · have HA : Hid (fpar.all pmOk = true) := pms_true (fun j hj => HK.out j hj (by have := hpl.out; omega))
      have HO3 : Hid (out = endsOkB ns ⟨fname, fpar, res, body, ret⟩) := by show _ = _; rw [HO2.out, HA.out, Bool.true_and]
      have HZ := HO3.out
      unfold endsOkB at HZ
      simp only at HZ
      rw [HN.out] at HZ
      have f2 := HFC.out _ 2 BB.out.2
      have f3 := HFC.out _ 3 BB.out.2
      have f4 := HFC.out _ 4 BB.out.2
      have p0 := BB.out.1.cell 0
      simp at f2 f3 f4 p0
      have HBl : Hid (Below w.heap.size w wr) := BB.out.1.below
      rcases isIn_cases body 0 ((N : Int) - 1) with ⟨hi, h⟩ | ⟨hi, h0, h1⟩
      · rw [hi, Bool.false_and, Bool.false_and] at HZ
        subst HZ
        clear hi
        go_wp2_with (go_at_call 63; refine (l01In_no _ _ _ _ h).mono ?_; rintro e w1 ⟨rfl, rfl⟩)
        go_ret
        exact ⟨rfl, HBl.out⟩
      rw [hi, Bool.true_and] at HZ
      obtain ⟨bn, rfl⟩ : ∃ bn : Nat, body = (bn : Int) := ⟨body.toNat, by omega⟩
      have hbn : bn < ns.length := by rw [HN.out]; omega
      obtain ⟨b2, off2, _, _, rfl, _⟩ := RowNd.at HV.out.1 bn hbn
      obtain ⟨d, _, hd, hb2, c0⟩ := kind_at HV.out.1 bn hbn
      rw [Int.toNat_natCast, hd] at HZ
      have hb0 : (0 : Int) ≤ (bn : Int) := by omega
      have hb1 : (bn : Int) < (N : Int) := by omega
      have d0 := (HBl.out.cell (p := ⟨b2, off2 + bn * 4, none⟩) hb2).trans c0
      have cI : Hid (∀ W, Calls Tryz.prog 63 #[.int .i64 (bn : Int), .int .i64 0, .int .i64 ((N : Int) - 1)] W fun e w' => e = .returned (.bool true) ∧ w' = W) := fun W => l01In_yes _ _ _ W h0 h1
      clear c0 hi h0
      by_cases h20 : d = 20
      rotate_left
      · have e1 : (d != 20) = true := by simpa using h20
        have e2 : out = false := by rw [HZ]; simp [h20]
        subst e2
        clear HZ h20
        go_wp2_with (go_at_call 63; refine Calls.mono (cI.out _) ?_; rintro e w1 ⟨rfl, h⟩; obtain rfl := h.symm)
        go_ret
        exact ⟨rfl, HBl.out⟩
      subst h20
      simp only [decide_true, Bool.true_and] at HZ
      by_cases hr0 : res = 0
      · subst hr0
        simp only [if_true] at HZ
        by_cases hm1 : ret = -1
        · subst hm1
          simp only [decide_true] at HZ
          subst HZ
          go_wp2_with (go_at_call 63; refine Calls.mono (cI.out _) ?_; rintro e w1 ⟨rfl, h⟩; obtain rfl := h.symm)
          go_ret
          exact ⟨rfl, HBl.out⟩
        · have e1 : (ret == -1) = false := by simpa using hm1
          have e2 : out = false := by rw [HZ]; simpa using hm1
          subst e2
          clear HZ hm1
          go_wp2_with (go_at_call 63; refine Calls.mono (cI.out _) ?_; rintro e w1 ⟨rfl, h⟩; obtain rfl := h.symm)
          go_ret
          exact ⟨rfl, HBl.out⟩
      rw [if_neg hr0, if_pos (by omega)] at HZ
      have e0 : (res == 0) = false := by simpa using hr0
      clear hr0
      rcases isIn_cases ret 0 ((N : Int) - 1) with ⟨hri, hrr⟩ | ⟨hri, hq0, hq1⟩
      · rw [hri, Bool.false_and] at HZ
        subst HZ
        have cJ : Hid (∀ W, Calls Tryz.prog 63 #[.int .i64 ret, .int .i64 0, .int .i64 ((N : Int) - 1)] W fun e w' => e = .returned (.bool false) ∧ w' = W) := fun W => l01In_no _ _ _ W hrr
        clear hri hrr
        go_wp2_with (go_at_call 63; (first | (with_reducible refine Calls.mono (cI.out _) ?_) | (with_reducible refine Calls.mono (cJ.out _) ?_)); rintro e w1 ⟨rfl, h⟩; obtain rfl := h.symm)
        go_ret
        exact ⟨rfl, HBl.out⟩
      · rw [hri, Bool.true_and] at HZ
        obtain ⟨rn, rfl⟩ : ∃ rn : Nat, ret = (rn : Int) := ⟨ret.toNat, by omega⟩
        have hrn : rn < ns.length := by rw [HN.out]; omega
        obtain ⟨d2, _, hd2, hb3, c2⟩ := kind_at HV.out.1 rn hrn
        rw [Int.toNat_natCast, hd2] at HZ
        have hrb0 : (0 : Int) ≤ (rn : Int) := by omega
        have hrb1 : (rn : Int) < (N : Int) := by omega
        have d3 := (HBl.out.cell (p := ⟨b2, off2 + rn * 4, none⟩) hb3).trans c2
        have cJ : Hid (∀ W, Calls Tryz.prog 63 #[.int .i64 (rn : Int), .int .i64 0, .int .i64 ((N : Int) - 1)] W fun e w' => e = .returned (.bool true) ∧ w' = W) := fun W => l01In_yes _ _ _ W hq0 hq1
        have cV : Hid (∀ W, Calls Tryz.prog 53 #[.int .i64 d2] W fun e w' => e = .returned (.bool out) ∧ w' = W) := fun W => by rw [HZ]; exact l04Value_is d2 W
        clear HZ c2 hri hq0
        go_wp2_with (first | (go_at_call 63; (first | (with_reducible refine Calls.mono (cI.out _) ?_) | (with_reducible refine Calls.mono (cJ.out _) ?_)); rintro e w1 ⟨rfl, h⟩; obtain rfl := h.symm) | (go_at_call 53; refine Calls.mono (cV.out _) ?_; rintro e w1 ⟨rfl, h⟩; obtain rfl := h.symm))
        go_ret
        exact ⟨rfl, HBl.out⟩

end Go.Proofs.YtbanmldmdoedkaaGreatDoor

namespace Go.Proofs.YtbanmldmdoedkaaGreatDoor
open Go.RowKit

/-- How often each node is a kid, and a thousand times how often a Body or a Ret. -/
def cm (l h : List Int) (N : Nat) : List Int := (List.range N).map fun (j : Nat) => ((l.count (j : Int) : Nat) : Int) + 1000 * ((h.count (j : Int) : Nat) : Int)
theorem cm_len (l h : List Int) (N : Nat) : (cm l h N).length = N := by simp [cm]
theorem cm_at (l h : List Int) (N j : Nat) (hj : j < N) : (cm l h N)[j]'(by rw [cm_len]; exact hj) = ((l.count (j : Int) : Nat) : Int) + 1000 * ((h.count (j : Int) : Nat) : Int) := by simp [cm]
theorem cm_nil (l : List Int) (N : Nat) : cm l [] N = cnt l N := by simp [cm, cnt]
theorem cm_step (l h : List Int) (N c : Nat) (hc : c < N) (y : Int) (hy : (cm l h N)[c]'(by rw [cm_len]; exact hc) = y) : (cm l h N).set c (y + 1000) = cm l (h ++ [(c : Int)]) N := by
  apply List.ext_getElem
  · simp [cm]
  · intro i h1 h2
    have hi : i < N := by rw [cm_len] at h2; exact h2
    rw [cm_at _ _ _ _ hi, List.getElem_set]
    rw [cm_at _ _ _ _ hc] at hy
    by_cases e : c = i
    · subst e
      rw [if_pos rfl, ← hy]
      simp
      omega
    · rw [if_neg e, cm_at _ _ _ _ hi]
      have : ¬ (c : Int) = (i : Int) := by omega
      simp [List.count_append, this]
theorem cm_bound (l h : List Int) (N c : Nat) (hc : c < N) (A B : Nat) (hl : l.length ≤ A) (hh : h.length ≤ B) (y : Int) (hy : (cm l h N)[c]'(by rw [cm_len]; exact hc) = y) : 0 ≤ y ∧ y ≤ (A : Int) + 1000 * (B : Int) := by
  rw [cm_at _ _ _ _ hc] at hy
  have h1 := List.count_le_length (a := (c : Int)) (l := l)
  have h2 := List.count_le_length (a := (c : Int)) (l := h)
  omega

set_option maxRecDepth 100000 in
set_option maxHeartbeats 12800000 in
theorem specProgramOk_any (v0 v1 : Value) (p : Pg) (w : World) (hR : RowPg w w.heap.size v0 v1 p) (hl : szPg p ≤ 1048576) :
    Calls Tryz.prog 27 #[.agg #[v0, v1]] w fun e w' => e = .returned (.bool (programOk p)) ∧ Below w.heap.size w w' := by
  obtain ⟨res, hres⟩ : ∃ r, Hid (programOk p = r) := ⟨_, (rfl : programOk p = programOk p)⟩
  rw [hres.out]
  obtain ⟨ns, fs⟩ := p
  have hfl : szRow szFc fs ≤ 1048576 := Nat.le_trans (le_szPg_fns ⟨ns, fs⟩) hl
  have hnl : szRow szNd ns ≤ 1048576 := Nat.le_trans (le_szPg_nodes ⟨ns, fs⟩) hl
  have HV : Hid (RowPg w w.heap.size v0 v1 ⟨ns, fs⟩) := hR
  obtain ⟨na, nc, rfl⟩ := hR.1.len
  obtain ⟨fa, fc, rfl⟩ := hR.2.len
  simp only at HV ⊢
  obtain ⟨N, HN⟩ : ∃ N, Hid (ns.length = N) := ⟨_, (rfl : ns.length = ns.length)⟩
  obtain ⟨F, HF⟩ : ∃ F, Hid (fs.length = F) := ⟨_, (rfl : fs.length = fs.length)⟩
  have HP : Hid (res = (isIn (N : Int) 1 300 && isIn (F : Int) 1 8 && decide (deepOf ns ((N : Int) - 1) ≠ 0) && fnsTo ns fs F && hangs ns fs)) := by
    show _ = _
    rw [← hres.out, programOk, HN.out, HF.out]
  rw [HN.out, HF.out] at HV ⊢
  have hNl : N ≤ 1048576 := by have := len_szRow szNd ns; have := HN.out; omega
  have hFl : F ≤ 1048576 := by have := len_szRow szFc fs; have := HF.out; omega
  have HL : Hid (szRow szNd ns ≤ 1048576 ∧ szRow szFc fs ≤ 1048576) := ⟨hnl, hfl⟩
  clear hR hl hfl hnl
  rcases isIn_cases (N : Int) 1 300 with ⟨hi, hN0⟩ | ⟨hi, hN1, hN3⟩
  · have HE : Hid (res = false) := by show _ = _; rw [HP.out, hi]; rfl
    clear hi
    go_enter Tryz.func27, Tryz.ntmps27
    go_wp2_with (go_at_call 63; refine (l01In_no _ _ _ _ hN0).mono ?_; rintro e w1 ⟨rfl, rfl⟩)
    go_ret
    exact ⟨by rw [HE.out]; rfl, by go_grown⟩
  have cI : Hid (∀ W, Calls Tryz.prog 63 #[.int .i64 (N : Int), .int .i64 1, .int .i64 300] W fun e w' => e = .returned (.bool true) ∧ w' = W) := fun W => l01In_yes _ _ _ W hN1 hN3
  rcases isIn_cases (F : Int) 1 8 with ⟨hi8, hF0⟩ | ⟨hi8, hF1, hF8⟩
  · have HE : Hid (res = false) := by show _ = _; rw [HP.out, hi8]; simp
    have cJ : Hid (∀ W, Calls Tryz.prog 63 #[.int .i64 (F : Int), .int .i64 1, .int .i64 8] W fun e w' => e = .returned (.bool false) ∧ w' = W) := fun W => l01In_no _ _ _ W hF0
    clear hi hi8
    go_enter Tryz.func27, Tryz.ntmps27
    go_wp2_with (go_at_call 63; (first | (with_reducible refine Calls.mono (cI.out _) ?_) | (with_reducible refine Calls.mono (cJ.out _) ?_)); rintro e w1 ⟨rfl, h⟩; obtain rfl := h.symm)
    go_ret
    exact ⟨by rw [HE.out]; rfl, by go_grown⟩
  have cJ : Hid (∀ W, Calls Tryz.prog 63 #[.int .i64 (F : Int), .int .i64 1, .int .i64 8] W fun e w' => e = .returned (.bool true) ∧ w' = W) := fun W => l01In_yes _ _ _ W hF1 hF8
  obtain ⟨m, HM⟩ : ∃ m : Nat, Hid (N = m + 1) := ⟨N - 1, (by omega : N = N - 1 + 1)⟩
  have HMi : Hid ((N : Int) - 1 = (m : Int)) := by show _ = _; have := HM.out; omega
  obtain ⟨d, hd⟩ : ∃ d, Hid (deepOf ns (m : Int) = d) := ⟨_, (rfl : deepOf ns (m : Int) = deepOf ns (m : Int))⟩
  have hml : m < ns.length := by rw [HN.out, HM.out]; omega
  have HDL : Hid ((deeps ns N).getD m 0 = d) := by show _ = _; rw [HM.out, ← hd.out]; exact (deepOf_in hml).symm
  have HP1 : Hid (res = (decide (d ≠ 0) && fnsTo ns fs F && hangs ns fs)) := by
    show _ = _
    rw [HP.out, hi, hi8, HMi.out, hd.out]
    rfl
  have cD : Hid (∀ W, Below w.heap.size w W → Calls Tryz.prog 64 #[.slice na N nc, .int .i64 ((N : Int) - 1)] W fun e w' => (∃ v, e = .returned v ∧ OwnsI w' W.heap.size v (deeps ns N)) ∧ Below W.heap.size W w') := fun W hW => by
    rw [HMi.out]
    have := l04Deeps_any na N nc m ns W (by have := HM.out; omega) ((HV.out.1.keep hW).up hW.size) HN HL.out.1
    rw [← HM.out] at this
    exact this
  clear hi hi8 HP
  go_enter Tryz.func27, Tryz.ntmps27
  go_wp2_with (go_at_call 63; (first | (with_reducible refine Calls.mono (cI.out _) ?_) | (with_reducible refine Calls.mono (cJ.out _) ?_)); rintro e w1 ⟨rfl, h⟩; obtain rfl := h.symm)
  go_at_call 64
  refine Calls.mono (cD.out _ (by go_grown)) ?_
  rintro e w1 ⟨⟨v, rfl, ho⟩, hb1⟩
  have B1 : Hid (Box w (.cells #[.slice na N nc, .slice fa F fc] 27) w1) := (Box.first _ _).next hb1
  obtain ⟨oa, oc, rfl, hg⟩ := RowI.le ho
  rw [deeps_len] at ho hg ⊢
  obtain ⟨og, rfl⟩ := hg (by omega)
  have c0 : w1.cell? ⟨og, N - 1, none⟩ = some (.int .i64 d) := OwnsI.cellAt ho (deeps_len ns N).symm (N - 1) (by rw [deeps_len]; omega) d (by rw [← getD_in (by rw [deeps_len]; omega), show N - 1 = m by have := HM.out; omega]; exact HDL.out)
  have hx0 : (0 : Int) ≤ (N : Int) - 1 := by omega
  have hx1 : (N : Int) - 1 < (N : Int) := by omega
  have hx2 : ((N : Int) - 1).toNat = N - 1 := by omega
  clear cD ho hg hb1 cI cJ
  by_cases hd0 : d = 0
  · have HE : Hid (res = false) := by show _ = _; rw [HP1.out, hd0]; rfl
    subst hd0
    go_wp2
    go_ret
    exact ⟨by rw [HE.out]; rfl, B1.out.below⟩
  have hd1 : (d == 0) = false := by simpa using hd0
  have HP2 : Hid (res = (fnsTo ns fs F && hangs ns fs)) := by show _ = _; rw [HP1.out]; simp [hd0]
  have hne : deepOf ns (m : Int) ≠ 0 := by rw [hd.out]; exact hd0
  have HKI : Hid (∀ t, (ht : t < ns.length) → nodeOk ns (t : Int) = true) := fun t ht => deep_nodes hml hne t (by have := HN.out; have := HM.out; omega)
  have cU : Hid (∀ W, Below w.heap.size w W → Calls Tryz.prog 65 #[.slice na N nc] W fun e w' => (∃ g, e = .returned (.slice (some ⟨g, 0, none⟩) N N) ∧ OwnsI w' W.heap.size (.slice (some ⟨g, 0, none⟩) N N) (cnt (allKids ns) N)) ∧ Below W.heap.size W w') := fun W hW =>
    l04Used_any na N nc ns W ((HV.out.1.keep hW).up hW.size) HN HL.out.1 (fun t ht c hc => by
      have h1 := kids_in ht (HKI.out t ht) c hc
      have := HN.out
      omega)
  have HKL : Hid ((allKids ns).length ≤ 1048576) := by
    show _ ≤ _
    have h1 := kids_le ns
    have h2 := HL.out.1
    unfold szRow at h2
    omega
  have HKC : Hid (∀ c : Int, (allKids ns).count c ≤ 300) := fun c => by
    have h1 := count_kids (fun t ht => kids_once ht (HKI.out t ht)) c
    have := HN.out
    omega
  have q0 := B1.out.cell 0
  simp at q0
  clear hne hd0 HP1
  go_wp2_with fail
  go_at_call 65
  refine Calls.mono (cU.out _ B1.out.below) ?_
  rintro e w2 ⟨⟨g, rfl, ho⟩, hb2⟩
  have B2 : Hid (Box w (.cells #[.slice na N nc, .slice fa F fc] 27) w2) := B1.out.next hb2
  have hgw : w.heap.size < g := by have := (OwnsR.lt ho g (by simp [fpOf, Value.ownBlock])).1; have := B1.out.lt; omega
  have O2 : Hid (OwnsI w2 (w.heap.size + 1) (.slice (some ⟨g, 0, none⟩) N N) (cm (allKids ns) [] N)) := by
    show OwnsI _ _ _ _
    rw [cm_nil]
    exact owns_base ho (by have := B1.out.lt; omega)
  clear hb2 cU B1 q0 ho c0 hx0 hx1 hx2
  go_wp2_with fail
  go_loopw [5] (fun i wr => ∃ t : Nat, t ≤ F ∧ i = .int .i64 (t : Int) ∧ Hid (fnsTo ns fs t = true) ∧ Hid (OwnsI wr (w.heap.size + 1) (.slice (some ⟨g, 0, none⟩) N N) (cm (allKids ns) (heads (fs.take t)) N)) ∧ Hid (Box w (.cells #[.slice na N nc, .slice fa F fc] 27) wr)) (fun i _ => F - (intOf i).toNat)
  case atStart => exact ⟨0, Nat.zero_le _, rfl, rfl, O2, B2⟩
  case round =>
    obtain ⟨t, ht, rfl, HT, HO, BX⟩ := hrel
    clear O2 B2
    have q0 := BX.out.cell 0
    have q1 := BX.out.cell 1
    simp at q0 q1
    by_cases hlt : t < F
    · have ht1 : (t : Int) < (F : Int) := by omega
      have ht0 : (0 : Int) ≤ (t : Int) := by omega
      have htl : t < fs.length := by have := HF.out; omega
      obtain ⟨q, hqe⟩ : ∃ q, Hid (fs[t] = q) := ⟨_, (rfl : fs[t] = fs[t])⟩
      obtain ⟨ok, hok⟩ : ∃ r, Hid (fnOk ns fs t q = r) := ⟨_, (rfl : fnOk ns fs t q = fnOk ns fs t q)⟩
      have HG : Hid (fs.getD t ⟨ByteArray.empty, [], 0, 0, 0⟩ = q) := by show _ = _; rw [← hqe.out]; simp [List.getD, htl]
      have cN : Hid (∀ W, Below w.heap.size w W → Calls Tryz.prog 66 #[.agg #[.slice na N nc, .slice fa F fc], .int .i64 (t : Int)] W fun e w' => e = .returned (.bool ok) ∧ Below W.heap.size W w') := fun W hW => by
        rw [← hok.out]
        exact l04Fn_any na fa N nc F fc t ns fs W ((HV.out.keep hW).up hW.size) HN HF hNl hFl HL.out.2 hlt q hqe
      go_wp2_with fail
      go_at_call 66
      refine Calls.mono (cN.out _ BX.out.below) ?_
      rintro e w3 ⟨rfl, hb3⟩
      have BX3 : Hid (Box w (.cells #[.slice na N nc, .slice fa F fc] 27) w3) := BX.out.next hb3
      have HO3 : Hid (OwnsI w3 (w.heap.size + 1) (.slice (some ⟨g, 0, none⟩) N N) (cm (allKids ns) (heads (fs.take t)) N)) := OwnsR.below HO.out hb3
      clear hb3 cN BX HO q0 q1
      cases ok
      · have HE : Hid (res = false) := by show _ = _; rw [HP2.out, fnsTo_false hlt (by rw [HG.out]; exact hok.out)]; rfl
        go_wp2
        go_ret
        exact ⟨by rw [HE.out]; rfl, BX3.out.below⟩
      have HT1 : Hid (fnsTo ns fs (t + 1) = true) := by show _ = _; rw [fnsTo, HT.out, HG.out, hok.out]; rfl
      have hnx : Hid (heads (fs.take (t + 1)) = heads (fs.take t) ++ headsIn fs[t]) := heads_take fs t htl
      have hcb : (0 ≤ q.body ∧ q.body < (N : Int)) ∧ q.ret < (N : Int) := by
        have h1 := hok.out
        unfold fnOk at h1
        simp only [Bool.and_eq_true] at h1
        have h2 := h1.2
        rw [← HN.out]
        unfold endsOkB at h2
        simp only [Bool.and_eq_true] at h2
        have hb := h2.1.1
        simp [isIn] at hb
        refine ⟨by omega, ?_⟩
        have hr := h2.2
        split at hr
        · simp at hr
          omega
        · split at hr
          · simp [isIn] at hr
            omega
          · cases hr
      have hln : (heads (fs.take t)).length ≤ 16 := by
        have h1 := heads_len (fs.take t)
        have h2 : (fs.take t).length ≤ t := List.length_take_le _ _
        omega
      obtain ⟨b, off, pv, rfl, hb, c0, c1, c2, c3, c4, hp⟩ := FcR.at HV.out.2 t htl
      rw [hqe.out] at c3 c4 hnx
      have d3 := (BX3.out.below.cell (p := ⟨b, off + t * 5 + 3, none⟩) hb).trans c3
      have d4 := (BX3.out.below.cell (p := ⟨b, off + t * 5 + 4, none⟩) hb).trans c4
      have C4 : Hid _ := c4
      obtain ⟨L, hL⟩ : ∃ L, Hid (heads (fs.take t) = L) := ⟨_, (rfl : heads (fs.take t) = heads (fs.take t))⟩
      rw [hL.out] at HO3 hnx hln
      obtain ⟨fname, fpar, rs, body, ret⟩ := q
      simp only at d3 d4 hcb hnx C4
      clear c0 c1 c2 c3 c4 hp
      obtain ⟨bn, rfl⟩ : ∃ bn : Nat, body = (bn : Int) := ⟨body.toNat, by omega⟩
      have hb0 : (0 : Int) ≤ (bn : Int) := by omega
      have hb1 : (bn : Int) < (N : Int) := hcb.1.2
      have hbn : bn < N := by omega
      have hr1 : ret < (N : Int) := hcb.2
      obtain ⟨y, hy⟩ : ∃ y, Hid ((cm (allKids ns) L N)[bn]'(by rw [cm_len]; exact hbn) = y) := ⟨_, (rfl : (cm (allKids ns) L N)[bn]'(by rw [cm_len]; exact hbn) = _)⟩
      have hyb := cm_bound (allKids ns) L N bn hbn 1048576 16 HKL.out hln y hy.out
      have hy0 := hyb.1
      have hy1 : y ≤ 1064576 := by omega
      have g1 := OwnsI.cellAt HO3.out (cm_len _ _ N).symm bn (by rw [cm_len]; exact hbn) y hy.out
      have g2 := OwnsI.freeAt HO3.out (cm_len _ _ N).symm bn
      have S1 : Hid (OwnsI ((w3.setCell ⟨g, bn, none⟩ (.int .i64 (y + 1000))).drew) (w.heap.size + 1) (.slice (some ⟨g, 0, none⟩) N N) (cm (allKids ns) (L ++ [(bn : Int)]) N)) := by
        have := OwnsI.set HO3.out (cm_len _ _ N).symm bn (by rw [cm_len]; exact hbn) (y + 1000)
        rw [cm_step _ _ N bn hbn y hy.out] at this
        exact World.ownsRow.drew this
      have SB1 : Hid (Box w (.cells #[.slice na N nc, .slice (some ⟨b, off, none⟩) F fc] 27) ((w3.setCell ⟨g, bn, none⟩ (.int .i64 (y + 1000))).drew)) := (BX3.out.setCell hgw _).drew
      have q1 := BX3.out.cell 1
      simp at q1
      clear hyb hcb
      go_wp2_with fail
      go_region
      generalize (w3.setCell ⟨g, bn, none⟩ (.int .i64 (y + 1000))).drew = w4 at S1 SB1 ⊢
      clear g1 g2 q1 d3 d4 BX3 HO3
      have d4 := (SB1.out.below.cell (p := ⟨b, off + t * 5 + 4, none⟩) hb).trans C4.out
      have q1 := SB1.out.cell 1
      simp at q1
      by_cases hr0 : ret < 0
      · have HN1 : Hid (heads (fs.take (t + 1)) = L ++ [(bn : Int)]) := by show _ = _; rw [hnx.out, headsIn, if_neg (by simp only; omega)]
        go_wp2
        go_roundw
        case rel =>
          refine ⟨t + 1, by omega, by go_num, HT1, ?_, SB1⟩
          show OwnsI _ _ _ _
          rw [HN1.out]
          exact S1.out
        case measure => simp [intOf]; omega
      · obtain ⟨rn, rfl⟩ : ∃ rn : Nat, ret = (rn : Int) := ⟨ret.toNat, by omega⟩
        have hr00 : (0 : Int) ≤ (rn : Int) := by omega
        have hrn : rn < N := by omega
        have HN1 : Hid (heads (fs.take (t + 1)) = L ++ [(bn : Int)] ++ [(rn : Int)]) := by show _ = _; rw [hnx.out, headsIn, if_pos (by simp only; omega), List.append_assoc]; rfl
        obtain ⟨x, hx⟩ : ∃ y, Hid ((cm (allKids ns) (L ++ [(bn : Int)]) N)[rn]'(by rw [cm_len]; exact hrn) = y) := ⟨_, (rfl : (cm (allKids ns) (L ++ [(bn : Int)]) N)[rn]'(by rw [cm_len]; exact hrn) = _)⟩
        have hxb := cm_bound (allKids ns) (L ++ [(bn : Int)]) N rn hrn 1048576 17 HKL.out (by simp; omega) x hx.out
        have hx0 := hxb.1
        have hx1 : x ≤ 1065576 := by omega
        have k1 := OwnsI.cellAt S1.out (cm_len _ _ N).symm rn (by rw [cm_len]; exact hrn) x hx.out
        have k2 := OwnsI.freeAt S1.out (cm_len _ _ N).symm rn
        have S2 : Hid (OwnsI ((w4.setCell ⟨g, rn, none⟩ (.int .i64 (x + 1000))).drew) (w.heap.size + 1) (.slice (some ⟨g, 0, none⟩) N N) (cm (allKids ns) (heads (fs.take (t + 1))) N)) := by
          have := OwnsI.set S1.out (cm_len _ _ N).symm rn (by rw [cm_len]; exact hrn) (x + 1000)
          rw [cm_step _ _ N rn hrn x hx.out] at this
          show OwnsI _ _ _ _
          rw [HN1.out]
          exact World.ownsRow.drew this
        have SB2 : Hid (Box w (.cells #[.slice na N nc, .slice (some ⟨b, off, none⟩) F fc] 27) ((w4.setCell ⟨g, rn, none⟩ (.int .i64 (x + 1000))).drew)) := (SB1.out.setCell hgw _).drew
        clear hxb S1 SB1
        go_wp2_with fail
        go_region
        generalize (w4.setCell ⟨g, rn, none⟩ (.int .i64 (x + 1000))).drew = w5 at S2 SB2 ⊢
        clear k1 k2 q1 d4
        go_wp2
        go_roundw
        case rel => exact ⟨t + 1, by omega, by go_num, HT1, S2, SB2⟩
        case measure => simp [intOf]; omega
    · have htF : Hid (t = F) := (by omega : t = F)
      have HP3 : Hid (res = hangs ns fs) := by show _ = _; rw [HP2.out, ← htF.out, HT.out, Bool.true_and]
      have HO2 : Hid (OwnsI wr (w.heap.size + 1) (.slice (some ⟨g, 0, none⟩) N N) (cm (allKids ns) (heads fs) N)) := by
        have := HO.out
        rw [htF.out, ← HF.out, List.take_length] at this
        exact this
      have HHL : Hid (∀ c : Int, (heads fs).count c ≤ 16) := fun c => by
        have h1 := heads_len fs
        have h2 := List.count_le_length (a := c) (l := heads fs)
        have := HF.out
        omega
      have HBw : Hid (Below w.heap.size w wr) := BX.out.below
      clear HT HO BX
      go_wp2_with fail
      go_loop [6] (fun i => ∃ t : Nat, t ≤ N ∧ i = .int .i64 (t : Int) ∧ Hid (∀ j, j < t → (allKids ns).count (j : Int) + (heads fs).count (j : Int) = 1)) (fun i => N - (intOf i).toNat)
      case atStart => exact ⟨0, Nat.zero_le _, rfl, fun j hj => by omega⟩
      case round =>
        obtain ⟨k, hk, rfl, HK⟩ := hrel
        clear q0 q1
        by_cases hkl : k < N
        · have hk1 : (k : Int) < (N : Int) := by omega
          have hk0 : (0 : Int) ≤ (k : Int) := by omega
          obtain ⟨x, hx⟩ : ∃ x : Nat, Hid ((allKids ns).count (k : Int) = x) := ⟨_, (rfl : (allKids ns).count (k : Int) = (allKids ns).count (k : Int))⟩
          obtain ⟨y, hy⟩ : ∃ y : Nat, Hid ((heads fs).count (k : Int) = y) := ⟨_, (rfl : (heads fs).count (k : Int) = (heads fs).count (k : Int))⟩
          have hxb : x ≤ 300 := by rw [← hx.out]; exact HKC.out _
          have hyb : y ≤ 16 := by rw [← hy.out]; exact HHL.out _
          obtain ⟨z, hz⟩ : ∃ z : Int, (x : Int) + 1000 * (y : Int) = z := ⟨_, rfl⟩
          have c0 := OwnsI.cellAt HO2.out (cm_len _ _ N).symm k (by rw [cm_len]; exact hkl) z (by rw [cm_at _ _ _ _ hkl, hx.out, hy.out]; exact hz)
          by_cases h1 : x + y = 1
          · have HK1 : Hid (∀ j, j < k + 1 → (allKids ns).count (j : Int) + (heads fs).count (j : Int) = 1) := fun j hj => by
              rcases Nat.lt_or_ge j k with h | h
              · exact HK.out j h
              · have : j = k := by omega
                subst this
                rw [hx.out, hy.out]
                exact h1
            by_cases hz1 : z = 1
            · subst hz1
              clear hz h1
              go_wp2
              go_round
              case rel => exact ⟨k + 1, by omega, by go_num, HK1⟩
              case measure => simp [intOf]; omega
            · have hz2 : z = 1000 := by omega
              subst hz2
              clear hz h1 hz1
              go_wp2
              go_round
              case rel => exact ⟨k + 1, by omega, by go_num, HK1⟩
              case measure => simp [intOf]; omega
          · have HE : Hid (res = false) := by show _ = _; rw [HP3.out]; exact hangs_false (j := k) (by rw [HN.out]; exact hkl) (by rw [hx.out, hy.out]; exact h1)
            have e1 : (z != 1) = true := by simp; omega
            have e2 : (z != 1000) = true := by simp; omega
            clear hz h1
            go_wp2
            go_ret
            exact ⟨by rw [HE.out]; rfl, HBw.out⟩
        · have HE : Hid (res = true) := by show _ = _; rw [HP3.out]; exact hangs_true (fun j hj => HK.out j (by have := HN.out; omega))
          go_wp2
          go_ret
          exact ⟨by rw [HE.out]; rfl, HBw.out⟩

end Go.Proofs.YtbanmldmdoedkaaGreatDoor

namespace Go.Proofs.YtbanmldmdoedkaaGreatDoor
open Go.RowKit

/-- What is known going back from node m to node t. -/
def Back (ns : List Nd) (m t : Nat) (bs : List Bool) : Prop := bs.length = m + 1 ∧ ∀ j, bs.getD j false = true ↔ j = m ∨ ∃ i, t ≤ i ∧ Reach ns m i ∧ (j : Int) ∈ (ns.getD i nd0).kids
theorem back_at {ns : List Nd} {m t : Nat} {bs : List Bool} (H : Ahead ns m) (h : Back ns m (t + 1) bs) : bs.getD t false = true ↔ Reach ns m t := by
  rw [h.2]
  constructor
  · rintro (rfl | ⟨i, _, hi, hc⟩)
    · exact .self
    · exact .step hi hc
  · intro hr
    cases hr with
    | self => exact .inl rfl
    | step hi hc =>
      have := H _ (reach_le H (Nat.le_refl _) hi) _ hc
      exact .inr ⟨_, by omega, hi, hc⟩
theorem back_no {ns : List Nd} {m t : Nat} {bs : List Bool} (H : Ahead ns m) (h : Back ns m (t + 1) bs) (hb : bs.getD t false = false) : Back ns m t bs := by
  refine ⟨h.1, fun j => ?_⟩
  rw [h.2]
  constructor
  · rintro (e | ⟨i, h1, h2, h3⟩)
    · exact .inl e
    · exact .inr ⟨i, by omega, h2, h3⟩
  · rintro (e | ⟨i, h1, h2, h3⟩)
    · exact .inl e
    · rcases Nat.lt_or_ge t i with h4 | h4
      · exact .inr ⟨i, h4, h2, h3⟩
      · have : i = t := by omega
        subst this
        have := (back_at H h).mpr h2
        rw [hb] at this
        cases this
theorem back_yes {ns : List Nd} {m t : Nat} {bs b2 : List Bool} (H : Ahead ns m) (h : Back ns m (t + 1) bs) (hb : bs.getD t false = true) (hl : b2.length = m + 1) (h2 : ∀ j, b2.getD j false = true ↔ bs.getD j false = true ∨ (j : Int) ∈ (ns.getD t nd0).kids) : Back ns m t b2 := by
  refine ⟨hl, fun j => ?_⟩
  rw [h2, h.2]
  constructor
  · rintro ((e | ⟨i, h1, h2, h3⟩) | h3)
    · exact .inl e
    · exact .inr ⟨i, by omega, h2, h3⟩
    · exact .inr ⟨t, Nat.le_refl _, (back_at H h).mp hb, h3⟩
  · rintro (e | ⟨i, h1, h2, h3⟩)
    · exact .inl (.inl e)
    · rcases Nat.lt_or_ge t i with h4 | h4
      · exact .inl (.inr ⟨i, h4, h2, h3⟩)
      · have : i = t := by omega
        subst this
        exact .inr h3
theorem back_end {ns : List Nd} {m : Nat} {bs : List Bool} (h : Back ns m 0 bs) (j : Nat) : bs.getD j false = true ↔ Reach ns m j := by
  rw [h.2]
  constructor
  · rintro (rfl | ⟨i, _, hi, hc⟩)
    · exact .self
    · exact .step hi hc
  · intro hr
    cases hr with
    | self => exact .inl rfl
    | step hi hc => exact .inr ⟨_, Nat.zero_le _, hi, hc⟩

end Go.Proofs.YtbanmldmdoedkaaGreatDoor

namespace Go.Proofs.YtbanmldmdoedkaaGreatDoor
open Go.RowKit

/-- What a call finds of its struct parameter in its first block, whatever came behind. -/
structure Boxed (w : World) (T : TypeId) (a0 a1 : Value) (W : World) : Prop where
  b : Below (w.heap.size + 1) (w.alloc (.cells #[a0, a1] T)) W
theorem Boxed.c0 {w W : World} {T : TypeId} {a0 a1 : Value} (h : Boxed w T a0 a1 W) : W.cell? ⟨w.heap.size, 0, none⟩ = some a0 := (h.b.cell (p := ⟨w.heap.size, 0, none⟩) (by show _ < _; simp)).trans (by simp)
theorem Boxed.c1 {w W : World} {T : TypeId} {a0 a1 : Value} (h : Boxed w T a0 a1 W) : W.cell? ⟨w.heap.size, 1, none⟩ = some a1 := (h.b.cell (p := ⟨w.heap.size, 1, none⟩) (by show _ < _; simp)).trans (by simp)
theorem Boxed.lt {w W : World} {T : TypeId} {a0 a1 : Value} (h : Boxed w T a0 a1 W) : w.heap.size < W.heap.size := by have := h.b.size; simp at this; omega
theorem Boxed.below {w W : World} {T : TypeId} {a0 a1 : Value} (h : Boxed w T a0 a1 W) : Below w.heap.size w W := ((Below.refl _ _).alloc (Nat.le_refl _) _).trans (h.b.mono (by omega))
theorem Boxed.next {w W W' : World} {T : TypeId} {a0 a1 : Value} (h : Boxed w T a0 a1 W) (hb : Below W.heap.size W W') : Boxed w T a0 a1 W' := ⟨h.b.trans (hb.mono (by have := h.lt; omega))⟩
theorem Boxed.first (w : World) (T : TypeId) (a0 a1 : Value) : Boxed w T a0 a1 (w.alloc (.cells #[a0, a1] T)) := ⟨Below.refl _ _⟩
theorem Boxed.alloc {w W : World} {T : TypeId} {a0 a1 : Value} (h : Boxed w T a0 a1 W) (o : Obj) : Boxed w T a0 a1 (W.alloc o) := h.next ((Below.refl _ _).alloc (Nat.le_refl _) _)
theorem Boxed.drew {w W : World} {T : TypeId} {a0 a1 : Value} (h : Boxed w T a0 a1 W) : Boxed w T a0 a1 W.drew := ⟨h.b.drew⟩

theorem two_new (W : World) (o : Obj) : (W.alloc o).heap[W.heap.size]? = some o := heap_alloc_new _ _

end Go.Proofs.YtbanmldmdoedkaaGreatDoor
