/-
  Under, in the model: nodes marked with all below them.
-/
import Derived.Test.YtljphnjmeckpbaaGreatDeepI
import Derived.Test.YtljphnjmeckpbaaGreatPlain19
import Derived.Test.YtljphnjmeckpbaaGreatBox
import Derived.Test.YtljphnjmeckpbaaGreatRowProgram
import Derived.Test.YtljphnjmeckpbaaGreatMarkInt
namespace Go.Proofs.YtljphnjmeckpbaaGreat
open Go.RowKit

def boC (b : Bool) : List Value := [.bool b]
theorem boC_len (b : Bool) : (boC b).length = 1 := rfl
/-- A row of flags that the call owns. -/
def OwnsB (w : World) (B : Nat) (v : Value) (bs : List Bool) : Prop := OwnsR boC 1 w B 4 v bs
theorem OwnsB.set {w : World} {B g n cap : Nat} {xs : List Bool} (h : OwnsB w B (.slice (some ⟨g, 0, none⟩) n cap) xs) (hn : n = xs.length) (i : Nat) (hi : i < xs.length) (y : Bool) : OwnsB (w.setCell ⟨g, i, none⟩ (.bool y)) B (.slice (some ⟨g, 0, none⟩) n cap) (xs.set i y) := by
  have := OwnsR.stored boC_len h hn i 0 hi (by omega) y (.bool y) (by simp [boC])
  simp only [Nat.mul_one, Nat.add_zero] at this
  exact this
theorem OwnsB.cellAt {w : World} {B g n cap : Nat} {xs : List Bool} (h : OwnsB w B (.slice (some ⟨g, 0, none⟩) n cap) xs) (hn : n = xs.length) (i : Nat) (hi : i < xs.length) (x : Bool) (hx : xs.getD i false = x) : w.cell? ⟨g, i, none⟩ = some (.bool x) := by
  have := OwnsR.cell boC_len h hn i 0 hi (by omega)
  have h2 : xs[i] = x := by rw [← hx]; simp [List.getD, hi]
  rw [← h2]
  simpa [boC] using this
theorem OwnsB.freeAt {w : World} {B g n cap : Nat} {xs : List Bool} (h : OwnsB w B (.slice (some ⟨g, 0, none⟩) n cap) xs) (hn : n = xs.length) (i : Nat) : w.frozen? ⟨g, i, none⟩ = false := OwnsR.free h hn i
theorem Tryz.infoBool : (Tryz.prog.info? 4).map (fun i => (i.zero, i.size, i.bytes)) = some (some (.bool false), 1, 1) := by kernel_rfl
theorem zero_bools (m : Nat) : (madeCells (Value.bool false).cells (m * 1)).toList = (List.replicate m false).flatMap boC := zero_cells (enc := boC) (k := 1) false (.bool false) boC_len (by decide) (by simp [Value.cells, boC]) m

theorem types_apart {k1 k2 : Nat} {w : World} {B1 B2 : Nat} {e1 e2 : TypeId} {v u : Value} {n1 n2 : Nat} {xs ys : List Value} (h1 : w.ownsRow B1 e1 k1 v n1 xs) (h2 : w.ownsRow B2 e2 k2 u n2 ys) (hne : e1 ≠ e2) : v.ownBlock = none ∨ v.ownBlock ≠ u.ownBlock := by
  rcases h1.2 with ⟨rfl, _⟩ | ⟨g, cap, cur, rfl, _, hg, _⟩
  · exact .inl rfl
  · rcases h2.2 with ⟨rfl, _⟩ | ⟨g2, cap2, cur2, rfl, _, hg2, _⟩
    · exact .inr (by simp [Value.ownBlock])
    · refine .inr (fun e => ?_)
      have : g = g2 := by simpa [Value.ownBlock] using e
      subst this
      rw [hg] at hg2
      injection hg2 with h
      injection h with _ h
      exact hne h
theorem below_of_grown {w w' : World} {g B : Nat} (h : w.grownBy w' (some g)) (hB : B ≤ g) (hw : B ≤ w.heap.size) : Below B w w' := ⟨h.os, h.tape, h.output, h.size, fun k hk => h.block k (by omega) (fun e => by cases e; omega)⟩

/-- What l04Mark leaves. -/
structure Marked (ns : List Nd) (k g N B : Nat) (bs : List Bool) (w w' : World) (bs' : List Bool) : Prop where
  own : OwnsB w' B (.slice (some ⟨g, 0, none⟩) N N) bs'
  len : bs'.length = N
  iff : ∀ j, bs'.getD j false = true ↔ bs.getD j false = true ∨ Reach ns k j
  grown : w.grownBy w' (some g)

set_option maxRecDepth 100000 in
set_option maxHeartbeats 3200000 in
theorem l04Mark_any (va : Option Addr) (N nc m g B : Nat) (ns : List Nd) (HN : Hid (ns.length = N)) (hm : m < N) (HA : Hid (Ahead ns m)) (hkl : Hid (∀ q ∈ ns, q.kids.length ≤ 1048576)) :
    ∀ k : Nat, k ≤ m → ∀ (w : World) (bs : List Bool), g < w.heap.size → NdR.Row w g (.slice va N nc) ns → OwnsB w B (.slice (some ⟨g, 0, none⟩) N N) bs → bs.length = N → Shut ns bs k →
    Calls Tryz.prog 78 #[.slice va N nc, .int .i64 (k : Int), .slice (some ⟨g, 0, none⟩) N N] w fun e w' => (∃ v, e = .returned v) ∧ ∃ bs', Marked ns k g N B bs w w' bs' := by
  intro k
  induction k using Nat.strongRecOn with
  | _ k ih =>
  intro hk w bs hgw hR hO hbl hS
  have IH : Hid (∀ c : Nat, c < k → ∀ (w : World) (bs : List Bool), g < w.heap.size → NdR.Row w g (.slice va N nc) ns → OwnsB w B (.slice (some ⟨g, 0, none⟩) N N) bs → bs.length = N → Shut ns bs c → Calls Tryz.prog 78 #[.slice va N nc, .int .i64 (c : Int), .slice (some ⟨g, 0, none⟩) N N] w fun e w' => (∃ v, e = .returned v) ∧ ∃ bs', Marked ns c g N B bs w w' bs') := fun c hc => ih c hc (by omega)
  clear ih
  have hk0 : (0 : Int) ≤ (k : Int) := by omega
  have hk1 : (k : Int) < (N : Int) := by omega
  have hkN : k < N := by omega
  have hknl : k < ns.length := by rw [HN.out]; omega
  have HR : Hid (NdR.Row w g (.slice va N nc) ns) := hR
  have HO : Hid (OwnsB w B (.slice (some ⟨g, 0, none⟩) N N) bs ∧ bs.length = N ∧ Shut ns bs k) := ⟨hO, hbl, hS⟩
  cases hb : bs.getD k false
  rotate_left
  · have c0 := OwnsB.cellAt hO hbl.symm k (by omega) true hb
    have HF : Hid (Marked ns k g N B bs w w bs) := ⟨hO, hbl, fun j => ⟨fun h => .inl h, fun h => h.elim id (shut_reach HA.out hk hS hb)⟩, World.grownBy.refl _ _⟩
    clear hO hbl hS hR hb
    go_enter Tryz.func78, Tryz.ntmps78
    go_wp2
    go_returns
    exact ⟨⟨_, rfl⟩, bs, HF.out⟩
  have c0 := OwnsB.cellAt hO hbl.symm k (by omega) false hb
  have f0 := OwnsB.freeAt hO hbl.symm k
  have HB : Hid (bs.getD k false = false) := hb
  obtain ⟨b, off, ka, kc, rfl, hbb, _, _, _, c3, hK⟩ := RowNd.at hR k hknl
  obtain ⟨ks, hks⟩ : ∃ ks, Hid (ns[k].kids = ks) := ⟨_, (rfl : ns[k].kids = ns[k].kids)⟩
  rw [hks.out] at c3 hK
  have HKS : Hid ((ns.getD k nd0).kids = ks) := by show _ = _; rw [← hks.out]; simp [List.getD, hknl]
  obtain ⟨K, HK⟩ : ∃ K, Hid (ks.length = K) := ⟨_, (rfl : ks.length = ks.length)⟩
  rw [HK.out] at c3 hK
  have HI : Hid (RowI w g (.slice ka K kc) ks) := hK
  have hKl : K ≤ 1048576 := by
    have h1 := hkl.out ns[k] (List.getElem_mem hknl)
    rw [hks.out, HK.out] at h1
    exact h1
  have HC3 : Hid (w.cell? ⟨b, off + k * 4 + 3, none⟩ = some (.slice ka K kc)) := c3
  have HS0 : Hid (OwnsB (w.setCell ⟨g, k, none⟩ (.bool true)) B (.slice (some ⟨g, 0, none⟩) N N) (bs.set k true) ∧ w.grownBy (w.setCell ⟨g, k, none⟩ (.bool true)) (some g)) := ⟨OwnsB.set hO hbl.symm k (by omega) true, grown_setCell w ⟨g, k, none⟩ _⟩
  clear hO hbl hS hR hb c3 hK
  go_enter Tryz.func78, Tryz.ntmps78
  go_wp2
  go_loopw [6] (fun i wr => ∃ s : Nat, s ≤ K ∧ i = .int .i64 (s : Int) ∧ Hid (∃ b2 : List Bool, OwnsB wr B (.slice (some ⟨g, 0, none⟩) N N) b2 ∧ b2.length = N ∧ (∀ j, b2.getD j false = true ↔ bs.getD j false = true ∨ j = k ∨ ∃ c : Nat, (c : Int) ∈ ks.take s ∧ Reach ns c j) ∧ w.grownBy wr (some g))) (fun i _ => K - (intOf i).toNat)
  case atStart =>
    refine ⟨0, Nat.zero_le _, rfl, bs.set k true, HS0.out.1, by rw [List.length_set]; exact HO.out.2.1, fun j => ?_, HS0.out.2⟩
    rw [getB_set _ _ _ (by rw [HO.out.2.1]; exact hkN)]
    by_cases e : k = j
    · subst e
      simp
    · rw [if_neg e]
      constructor
      · exact fun h => .inl h
      · rintro (h | h | ⟨c, hc, _⟩)
        · exact h
        · exact absurd h.symm e
        · simp at hc
  case round =>
    obtain ⟨s, hs, rfl, HJ⟩ := hrel
    clear HS0 c0 f0
    obtain ⟨b2, ho2, hl2, hi2, hg2⟩ := HJ.out
    have hBw : Below g w wr := below_of_grown hg2 (Nat.le_refl _) (by omega)
    have d3 := (hBw.cell (p := ⟨b, off + k * 4 + 3, none⟩) hbb).trans HC3.out
    by_cases hsl : s < K
    · have hs0 : (0 : Int) ≤ (s : Int) := by omega
      have hs1 : (s : Int) < (K : Int) := by omega
      have hskl : s < ks.length := by have := HK.out; omega
      obtain ⟨kb, ko, rfl, hkb, e0⟩ := HI.out.at s hskl
      obtain ⟨c, hc⟩ : ∃ c, Hid (ks[s] = c) := ⟨_, (rfl : ks[s] = ks[s])⟩
      have f1 := (hBw.cell (p := ⟨kb, ko + s, none⟩) hkb).trans e0
      rw [hc.out] at f1
      have hcb : 0 ≤ c ∧ c < (k : Int) := HA.out k hk c (by rw [HKS.out, ← hc.out]; exact List.getElem_mem hskl)
      obtain ⟨cn, rfl⟩ : ∃ cn : Nat, c = (cn : Int) := ⟨c.toNat, by omega⟩
      have hcn : cn < k := by omega
      have hsz := hg2.size
      have HSh : Hid (Shut ns b2 cn) := by
        intro i hi hbi c' hc'
        rw [hi2] at hbi ⊢
        rcases hbi with h | h | ⟨c0, hc0, hr⟩
        · exact .inl (HO.out.2.2 i (by omega) h c' hc')
        · omega
        · exact .inr (.inr ⟨c0, hc0, .step hr hc'⟩)
      have cR : Hid (Calls Tryz.prog 78 #[.slice (some ⟨b, off, none⟩) N nc, .int .i64 (cn : Int), .slice (some ⟨g, 0, none⟩) N N] wr fun e w' => (∃ v, e = .returned v) ∧ ∃ bs', Marked ns cn g N B b2 wr w' bs') := IH.out cn hcn wr b2 (by omega) (HR.out.keep hBw) ho2 hl2 HSh.out
      have HJ2 : Hid ((∀ j, b2.getD j false = true ↔ bs.getD j false = true ∨ j = k ∨ ∃ c : Nat, (c : Int) ∈ ks.take s ∧ Reach ns c j) ∧ w.grownBy wr (some g)) := ⟨hi2, hg2⟩
      clear e0 hcb HJ ho2 hl2 hi2 hg2 hBw HSh
      go_wp2_with fail
      go_at_call 78
      refine Calls.mono cR.out ?_
      rintro e w1 ⟨⟨v, rfl⟩, bs', hmk⟩
      have HN1 : Hid (∃ b2 : List Bool, OwnsB w1 B (.slice (some ⟨g, 0, none⟩) N N) b2 ∧ b2.length = N ∧ (∀ j, b2.getD j false = true ↔ bs.getD j false = true ∨ j = k ∨ ∃ c : Nat, (c : Int) ∈ ks.take (s + 1) ∧ Reach ns c j) ∧ w.grownBy w1 (some g)) := by
        refine ⟨bs', hmk.own, hmk.len, fun j => ?_, grown_trans HJ2.out.2 hmk.grown (.inr rfl) (.inr rfl)⟩
        rw [hmk.iff, HJ2.out.1, List.take_succ_eq_append_getElem hskl, hc.out]
        constructor
        · rintro ((h | h | ⟨c0, hc0, hr⟩) | hr)
          · exact .inl h
          · exact .inr (.inl h)
          · exact .inr (.inr ⟨c0, List.mem_append_left _ hc0, hr⟩)
          · exact .inr (.inr ⟨cn, List.mem_append_right _ (by simp), hr⟩)
        · rintro (h | h | ⟨c0, hc0, hr⟩)
          · exact .inl (.inl h)
          · exact .inl (.inr (.inl h))
          · rcases List.mem_append.mp hc0 with h1 | h1
            · exact .inl (.inr (.inr ⟨c0, h1, hr⟩))
            · have : c0 = cn := by simp at h1; omega
              subst this
              exact .inr hr
      clear hmk cR HJ2 d3 f1
      go_wp2
      go_roundw
      case rel => exact ⟨s + 1, by omega, by go_num, HN1⟩
      case measure => simp [intOf]; omega
    · have HsK : Hid (s = K) := (by omega : s = K)
      have HF : Hid (∃ bs', Marked ns k g N B bs w wr bs') := by
        refine ⟨b2, ho2, hl2, fun j => ?_, hg2⟩
        rw [hi2, HsK.out, ← HK.out, List.take_length, reach_head, HKS.out]
      clear ho2 hl2 hi2 hg2 hBw HJ
      go_wp2
      go_returns
      exact ⟨⟨_, rfl⟩, HF.out⟩

/-- What Under answers: all that lies under the node, or nothing where it has no depth. -/
def UnderAns (ns : List Nd) (k : Int) (xs : List Int) : Prop := (deepOf ns k = 0 ∧ xs = []) ∨ (deepOf ns k ≠ 0 ∧ IsUnder ns k.toNat xs)
theorem underAns_one {ns : List Nd} {k : Int} {xs ys : List Int} (h1 : UnderAns ns k xs) (h2 : UnderAns ns k ys) : xs = ys := by
  rcases h1 with ⟨a, rfl⟩ | ⟨a, b⟩
  · rcases h2 with ⟨c, rfl⟩ | ⟨c, d⟩
    · rfl
    · exact absurd a c
  · rcases h2 with ⟨c, rfl⟩ | ⟨c, d⟩
    · exact absurd c a
    · exact under_one b d
theorem deep_in {ns : List Nd} {k : Int} (h : deepOf ns k ≠ 0) : 0 ≤ k ∧ k < (ns.length : Int) := by
  by_cases h1 : k < 0 ∨ (ns.length : Int) ≤ k
  · exact absurd (deepOf_out h1) h
  · omega

set_option maxRecDepth 100000 in
set_option maxHeartbeats 3200000 in
theorem specUnder_any (v0 v1 : Value) (ns : List Nd) (k : Int) (w : World) (hR : NdR.Row w w.heap.size v0 ns) (hl : szRow szNd ns ≤ 1048576) :
    Calls Tryz.prog 49 #[.agg #[v0, v1], .int .i64 k] w fun e w' => (∃ g cap xs, e = .returned (.slice (some ⟨g, 0, none⟩) xs.length cap) ∧ OwnsI w' w.heap.size (.slice (some ⟨g, 0, none⟩) xs.length cap) xs ∧ UnderAns ns k xs ∧ xs.length ≤ 1048576) ∧ Below w.heap.size w w' := by
  obtain ⟨na, nc, rfl⟩ := hR.len
  obtain ⟨N, HN⟩ : ∃ N, Hid (ns.length = N) := ⟨_, (rfl : ns.length = ns.length)⟩
  have HV : Hid (NdR.Row w w.heap.size (.slice na N nc) ns) := by rw [← HN.out]; exact hR
  have HL : Hid (szRow szNd ns ≤ 1048576) := hl
  have hNl : N ≤ 1048576 := by have := len_szRow szNd ns; have := HN.out; omega
  rw [HN.out]
  obtain ⟨d, hd⟩ : ∃ d, Hid (deepOf ns k = d) := ⟨_, (rfl : deepOf ns k = deepOf ns k)⟩
  have cD : Hid (∀ W, Below w.heap.size w W → Calls Tryz.prog 77 #[.slice na N nc, .int .i64 k] W fun e w' => e = .returned (.int .i64 d) ∧ Below W.heap.size W w') := fun W hW => by
    rw [← hd.out]
    exact specDeepOf_any _ ns _ W ((HV.out.keep hW).up hW.size) HL.out
  clear hR hl
  go_enter Tryz.func49, Tryz.ntmps49
  go_wp2_with fail
  go_at_call 77
  refine Calls.mono (cD.out _ (by go_grown)) ?_
  rintro e w1 ⟨rfl, hb1⟩
  have B1 : Hid (Box w (.cells #[.slice na N nc, v1] 31) w1) := ((Box.first _ _).alloc _).next hb1
  have O1 : Hid (OwnsI w1 w.heap.size (.slice (some ⟨w.heap.size + 1, 0, none⟩) 0 0) []) := by
    have h0 := owns_empty (w.alloc (.cells #[.slice na N nc, v1] 31))
    have h1 := OwnsR.below h0.out hb1
    have hsz : (w.alloc (.cells #[.slice na N nc, v1] 31)).heap.size = w.heap.size + 1 := by simp
    rw [hsz] at h1
    exact owns_base h1 (by omega)
  have hs1 : w.heap.size + 1 < w1.heap.size := by have := hb1.size; simp at this; omega
  clear hb1 cD
  by_cases hd0 : d = 0
  · have HE : Hid (UnderAns ns k []) := .inl ⟨by rw [hd.out]; exact hd0, rfl⟩
    subst hd0
    go_wp2
    go_ret
    exact ⟨⟨_, _, [], rfl, O1.out, HE.out, by simp⟩, B1.out.below⟩
  have hne : deepOf ns k ≠ 0 := by rw [hd.out]; exact hd0
  have hkb := deep_in hne
  rw [HN.out] at hkb
  obtain ⟨m, rfl⟩ : ∃ m : Nat, k = (m : Int) := ⟨k.toNat, by omega⟩
  have hm : m < N := by omega
  have hd1 : (d == 0) = false := by simpa using hd0
  have HAh : Hid (Ahead ns m) := ahead_of (by rw [HN.out]; exact hm) hne
  have HNE : Hid (deepOf ns (m : Int) ≠ 0) := hne
  have q0 := B1.out.cell 0
  simp at q0
  obtain ⟨i0, hi, hz0, hz1, hz2⟩ := info_parts Tryz.infoBool
  clear hne hkb hd0
  go_wp2_with (at_make; refine wpList_make_full _ rfl _ _ 97 rfl (w.heap.size + 2) 4 i0 _ 1 Tryz.underlying97 hi hz0 hz1 _ _ _ _ N rfl rfl (by omega) (by omega) (by rw [hz2]; omega) (by unfold maxLen; omega) (by omega) ?_; intro w2 hown2 hg2; have B2 : Hid (Box w (.cells #[.slice na N nc, v1] 31) w2) := B1.out.next (below_grown hg2); have q2 := B2.out.cell 0; simp at q2)
  have O2 : Hid (OwnsI w2 w.heap.size (.slice (some ⟨w.heap.size + 1, 0, none⟩) 0 0) []) := OwnsR.below O1.out (below_grown hg2)
  have S2 : Hid (OwnsB w2 (w.heap.size + 2) (.slice (some ⟨w1.heap.size, 0, none⟩) N N) (List.replicate N false)) := by
    show OwnsB _ _ _ _
    unfold OwnsB OwnsR
    rw [List.length_replicate, ← zero_bools]
    exact hown2
  have hs2 : w1.heap.size < w2.heap.size := (OwnsR.lt S2.out w1.heap.size (by simp [fpOf, Value.ownBlock])).2
  have cM : Hid (Calls Tryz.prog 78 #[.slice na N nc, .int .i64 (m : Int), .slice (some ⟨w1.heap.size, 0, none⟩) N N] w2 fun e w' => (∃ v, e = .returned v) ∧ ∃ bs', Marked ns m w1.heap.size N (w.heap.size + 2) (List.replicate N false) w2 w' bs') :=
    l04Mark_any na N nc m w1.heap.size (w.heap.size + 2) ns HN hm HAh (fun q hq => Nat.le_trans (Nat.le_trans (le_szNd_kids q) (mem_szRow szNd hq)) HL.out) m (Nat.le_refl _) w2 _ hs2 ((HV.out.keep B2.out.below).up (by omega)) S2.out (by simp) (fun i _ hb => by
      have h0 : (List.replicate N false).getD i false = false := by simp only [List.getD]; rw [List.getElem?_replicate]; split <;> rfl
      rw [h0] at hb
      cases hb)
  clear hi hz0 hz1 hz2 hown2 hg2 q0 B1 O1 S2
  go_wp2_with fail
  go_at_call 78
  refine Calls.mono cM.out ?_
  rintro e w3 ⟨⟨v, rfl⟩, bs, hmk⟩
  have HBs : Hid (∀ j, bs.getD j false = true ↔ Reach ns m j) := fun j => by
    rw [hmk.iff]
    have h0 : (List.replicate N false).getD j false = false := by simp only [List.getD]; rw [List.getElem?_replicate]; split <;> rfl
    rw [h0]
    simp
  have HB3 : Hid (Below w.heap.size w w3) := B2.out.below.trans (below_of_grown hmk.grown (by omega) B2.out.below.size)
  have O3 : Hid (OwnsI w3 w.heap.size (.slice (some ⟨w.heap.size + 1, 0, none⟩) 0 0) [] ∧ OwnsB w3 (w.heap.size + 2) (.slice (some ⟨w1.heap.size, 0, none⟩) N N) bs ∧ bs.length = N) := ⟨OwnsR.kept O2.out hmk.grown (.inr (by simp [Value.ownBlock]; omega)), hmk.own, hmk.len⟩
  clear hmk cM B2 O2 q2
  go_wp2_with fail
  go_loopw [5, 7] (fun o i wr => ∃ (t : Nat), t ≤ N ∧ i = .int .i64 (t : Int) ∧ (∃ og oc : Nat, o = .slice (some ⟨og, 0, none⟩) (picks bs t).length oc) ∧ Hid (OwnsI wr w.heap.size o (picks bs t) ∧ Below w.heap.size w wr ∧ OwnsB wr (w.heap.size + 2) (.slice (some ⟨w1.heap.size, 0, none⟩) N N) bs)) (fun _ i _ => N - (intOf i).toNat)
  case atStart => exact ⟨0, Nat.zero_le _, rfl, ⟨_, _, rfl⟩, O3.out.1, HB3.out, O3.out.2.1⟩
  case round =>
    obtain ⟨t, ht, rfl, ⟨og, oc, rfl⟩, HJ⟩ := hrel
    have hlen : (picks bs t).length ≤ 1048576 := Nat.le_trans (picks_len bs t) (by omega)
    by_cases hlt : t < N
    · have ht0 : (0 : Int) ≤ (t : Int) := by omega
      have ht1 : (t : Int) < (N : Int) := by omega
      obtain ⟨x, hx⟩ : ∃ x, Hid (bs.getD t false = x) := ⟨_, (rfl : bs.getD t false = bs.getD t false)⟩
      have c0 := OwnsB.cellAt HJ.out.2.2 O3.out.2.2.symm t (by rw [O3.out.2.2]; exact hlt) x hx.out
      obtain ⟨hown, hBw, hbs⟩ := HJ.out
      have HBS : Hid (OwnsB wr (w.heap.size + 2) (.slice (some ⟨w1.heap.size, 0, none⟩) N N) bs ∧ (Value.slice (some ⟨w1.heap.size, 0, none⟩) N N).ownBlock ≠ (Value.slice (some ⟨og, 0, none⟩) (picks bs t).length oc).ownBlock) := ⟨hbs, (types_apart hbs hown (by decide)).elim (fun e => by cases e) id⟩
      have hsz := hBw.size
      cases x
      · have HP : Hid (picks bs (t + 1) = picks bs t) := picks_no hx.out
        clear hown hBw hbs
        go_wp2
        go_roundw
        case rel => exact ⟨t + 1, by omega, by go_num, by rw [HP.out]; exact ⟨_, _, rfl⟩, by rw [HP.out]; exact HJ⟩
        case measure => simp [intOf]; omega
      · have HP : Hid (picks bs (t + 1) = picks bs t ++ [(t : Int)]) := picks_yes hx.out
        clear hbs HJ
        go_wp2_with (at_builtin; go_must (refine appendR inC_len rfl _ _ 35 rfl w.heap.size 3 _ 8 Tryz.underlying35 Tryz.infoInt rfl (by decide) hown (t : Int) (inC_ones _) rfl (by first | rfl | (simp [Act.eval]; done)) (by omega) (by omega) hsz ?_); intro v4 w4 hown4 hb4 hs4 hg4)
        have HN4 : Hid ((∃ og oc : Nat, v4 = .slice (some ⟨og, 0, none⟩) (picks bs (t + 1)).length oc) ∧ OwnsI w4 w.heap.size v4 (picks bs (t + 1)) ∧ Below w.heap.size w w4 ∧ OwnsB w4 (w.heap.size + 2) (.slice (some ⟨w1.heap.size, 0, none⟩) N N) bs) := by
          have hk := OwnsR.kept HBS.out.1 hg4 (.inr HBS.out.2)
          have ho4 : OwnsI w4 w.heap.size v4 (picks bs (t + 1)) := by rw [HP.out]; exact hown4
          refine ⟨?_, ho4, hb4 w hBw, hk⟩
          rcases OwnsR.form ho4 with ⟨_, h0⟩ | ⟨g4, cap4, h4, _⟩
          · rw [HP.out] at h0
            simp at h0
          · exact ⟨g4, cap4, h4⟩
        clear hown4 hb4 hs4 hg4 hown hBw HBS
        go_wp2
        go_roundw
        case rel => exact ⟨t + 1, by omega, by go_num, HN4.out.1, HN4.out.2⟩
        case measure => simp [intOf]; omega
    · have htm : Hid (t = N) := (by omega : t = N)
      have HE : Hid (UnderAns ns (m : Int) (picks bs t)) := by
        refine .inr ⟨HNE.out, ?_⟩
        rw [Int.toNat_natCast]
        exact picks_under HBs.out (fun j hj => by have := reach_le HAh.out (Nat.le_refl _) hj; have := htm.out; omega)
      go_wp2
      go_ret
      exact ⟨⟨_, _, picks bs t, rfl, HJ.out.1, HE.out, hlen⟩, HJ.out.2.1⟩

end Go.Proofs.YtljphnjmeckpbaaGreat
