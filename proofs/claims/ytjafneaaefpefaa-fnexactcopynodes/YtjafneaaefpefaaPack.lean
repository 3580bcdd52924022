/-
  Rows of nodes that grow in a struct's block, behind what is there: what is kept meanwhile. No program is named here.
-/
import Derived.Test.YtjafneaaefpefaaDe
import Derived.Test.YtjafneaaefpefaaPlain20
import Derived.Test.YtjafneaaefpefaaKa
import Derived.Lib.BufferMore
import Derived.Maps.AppendAt
namespace Go.Proofs.Ytjafneaaefpefaa
open Go.RowKit

theorem heap_in {w : World} {g : Nat} {o : Obj} (h : w.heap[g]? = some o) : g < w.heap.size := by
  rcases Nat.lt_or_ge g w.heap.size with h1 | h1
  · exact h1
  · rw [Array.getElem?_eq_none h1] at h
    cases h
/-- A block as a value. -/
def blk (x : Nat) : Value := .slice (some ⟨x, 0, none⟩) 0 0
theorem fp_blk (x : Nat) : fpOf (blk x) = [x] := by simp [blk, fpOf, Value.ownBlock]
theorem fps_two (x : Nat) (v : Value) : fps [blk x, v] = x :: fpOf v := by
  rw [fps_cons, fps_one, fp_blk]
  rfl

/-- The row lies in a struct's block. -/
structure PutIn (x B : Nat) (o : Obj) (w : World) (v : Value) (ps : List (Nd × Value)) : Prop where
  at_ : w.heap[x]? = some o
  lb : B ≤ x
  nx : x ∉ fps (NdR.all v ps)
  phys : NdR.Phys w B v ps
  nd : (fps (ps.flatMap NdR.vals)).Nodup
/-- What has turned: the struct's block and the row's own, no other; new rows lie in new blocks. -/
structure Turned (x : Nat) (w w' : World) (v v' : Value) (ps ps' : List (Nd × Value)) : Prop where
  kept : Kept [blk x, v] w w'
  head : ∀ g ∈ fpOf v', g ∈ fpOf v ∨ w.heap.size ≤ g
  tail : ∃ qs, ps' = ps ++ qs ∧ ∀ g ∈ fps (qs.flatMap NdR.vals), w.heap.size ≤ g
theorem Turned.refl (x : Nat) (w : World) (v : Value) (ps : List (Nd × Value)) : Turned x w w v v ps ps := ⟨Kept.refl _ _, fun _ h => .inl h, [], by simp, by simp [fps]⟩
theorem Turned.trans {x : Nat} {a b c : World} {u v t : Value} {ps qs rs : List (Nd × Value)} (h : Turned x a b u v ps qs) (k : Turned x b c v t qs rs) : Turned x a c u t ps rs := by
  have hs := h.kept.size
  refine ⟨⟨k.kept.os.trans h.kept.os, k.kept.tape.trans h.kept.tape, k.kept.output.trans h.kept.output, Nat.le_trans hs k.kept.size, fun g hg hn => ?_⟩, ?_, ?_⟩
  · rw [fps_two] at hn
    simp only [List.mem_cons, not_or] at hn
    rw [k.kept.block g (by omega) (by
      rw [fps_two]
      simp only [List.mem_cons, not_or]
      refine ⟨hn.1, fun hv => ?_⟩
      rcases h.head g hv with h1 | h1
      · exact hn.2 h1
      · omega)]
    exact h.kept.block g hg (by rw [fps_two]; simp only [List.mem_cons, not_or]; exact hn)
  · intro g hg
    rcases k.head g hg with h1 | h1
    · exact h.head g h1
    · exact .inr (by omega)
  · obtain ⟨xs, rfl, hx⟩ := h.tail
    obtain ⟨ys, rfl, hy⟩ := k.tail
    refine ⟨xs ++ ys, by simp, fun g hg => ?_⟩
    rw [List.flatMap_append, fps_append] at hg
    rcases List.mem_append.mp hg with h1 | h1
    · exact hx g h1
    · have := hy g h1
      omega
/-- A block that lies apart from all of it. -/
structure Off (x : Nat) (v : Value) (ps : List (Nd × Value)) (g : Nat) : Prop where
  x : g ≠ x
  v : g ∉ fpOf v
  ps : g ∉ fps (ps.flatMap NdR.vals)
theorem Turned.off {x : Nat} {w w' : World} {v v' : Value} {ps ps' : List (Nd × Value)} (h : Turned x w w' v v' ps ps') {g : Nat} (hg : g < w.heap.size) (ho : Off x v ps g) : Off x v' ps' g := by
  refine ⟨ho.x, fun hv => ?_, fun hp => ?_⟩
  · rcases h.head g hv with h1 | h1
    · exact ho.v h1
    · omega
  · obtain ⟨qs, rfl, hq⟩ := h.tail
    rw [List.flatMap_append, fps_append] at hp
    rcases List.mem_append.mp hp with h1 | h1
    · exact ho.ps h1
    · have := hq g h1
      omega
theorem Turned.block {x : Nat} {w w' : World} {v v' : Value} {ps ps' : List (Nd × Value)} (h : Turned x w w' v v' ps ps') {g : Nat} (hg : g < w.heap.size) (hx : g ≠ x) (hv : g ∉ fpOf v) : w'.heap[g]? = w.heap[g]? :=
  h.kept.block g hg (by rw [fps_two]; simp only [List.mem_cons, not_or]; exact ⟨hx, hv⟩)
theorem Turned.size {x : Nat} {w w' : World} {v v' : Value} {ps ps' : List (Nd × Value)} (h : Turned x w w' v v' ps ps') : w.heap.size ≤ w'.heap.size := h.kept.size
/-- Below all of it nothing has turned. -/
theorem Turned.below {x B : Nat} {o : Obj} {w w' : World} {v v' : Value} {ps ps' : List (Nd × Value)} (h : Turned x w w' v v' ps ps') (hp : PutIn x B o w v ps) : Below B w w' :=
  h.kept.below (by have := hp.lb; have : x < w.heap.size := heap_in hp.at_; omega) (fun g hg => by
    rw [fps_two] at hg
    rcases List.mem_cons.mp hg with rfl | h1
    · exact hp.lb
    · exact (hp.phys.1.lt g h1).1)
theorem PutIn.nv {x B : Nat} {o : Obj} {w : World} {v : Value} {ps : List (Nd × Value)} (h : PutIn x B o w v ps) : some x ≠ v.ownBlock := fun e => h.nx (NdR.mem_head (by simp [fpOf, ← e]))
theorem Turned.row {x : Nat} {w w' : World} {v v' u : Value} {ps ps' : List (Nd × Value)} {C : Nat} {ks : List Int} (h : Turned x w w' v v' ps ps') (hu : OwnsI w C u ks) (ho : ∀ g ∈ fpOf u, Off x v ps g) : OwnsI w' C u ks :=
  OwnsR.same hu (fun g hg => h.block (OwnsR.lt hu g hg).2 (ho g hg).x (ho g hg).v)
/-- What lies behind all of it may come and go. -/
theorem PutIn.off {x B : Nat} {o : Obj} {w : World} {v : Value} {ps : List (Nd × Value)} (h : PutIn x B o w v ps) {g : Nat} (hg : w.heap.size ≤ g) : Off x v ps g :=
  ⟨by have := heap_in h.at_; omega, fun hv => by have := (h.phys.1.lt g hv).2; omega, fun hp => by
    have := (h.phys.lt g (by unfold RowTy.all; rw [fps_cons]; exact List.mem_append_right _ hp)).2
    omega⟩
theorem PutIn.keep {x B : Nat} {o : Obj} {w w' : World} {v : Value} {ps : List (Nd × Value)} (h : PutIn x B o w v ps) (hs : ∀ g, g = x ∨ g ∈ fps (NdR.all v ps) → w'.heap[g]? = w.heap[g]?) : PutIn x B o w' v ps :=
  ⟨(hs x (.inl rfl)).trans h.at_, h.lb, h.nx, h.phys.same (fun g hg => hs g (.inr hg)), h.nd⟩
theorem PutIn.below {x B : Nat} {o : Obj} {w w' : World} {v : Value} {ps : List (Nd × Value)} (h : PutIn x B o w v ps) (hb : Below w.heap.size w w') : PutIn x B o w' v ps :=
  h.keep (fun g hg => hb.block g (by
    rcases hg with rfl | hg
    · exact heap_in h.at_
    · exact (h.phys.lt g hg).2))
/-- A store into a block apart from it. -/
theorem PutIn.set {x B : Nat} {o : Obj} {w : World} {v : Value} {ps : List (Nd × Value)} (h : PutIn x B o w v ps) {y j : Nat} {u : Value} (hy : Off x v ps y) : PutIn x B o (w.setCell ⟨y, j, none⟩ u) v ps :=
  h.keep (fun g hg => kept_set (by
    rintro rfl
    rcases hg with e | hg
    · exact hy.x e
    · unfold RowTy.all at hg
      rw [fps_cons] at hg
      rcases List.mem_append.mp hg with h1 | h1
      · exact hy.v h1
      · exact hy.ps h1))
theorem Turned.of_below {x : Nat} {w w' : World} {v : Value} {ps : List (Nd × Value)} (hb : Below w.heap.size w w') : Turned x w w' v v ps ps :=
  ⟨Kept.of_below hb, fun _ h => .inl h, [], by simp, by simp [fps]⟩

/-- One more node, and the row stored where it lay. -/
theorem PutIn.more {x B j : Nat} {cs : Array Value} {T : TypeId} {w0 w w2 : World} {v0 v v' : Value} {ps0 ps : List (Nd × Value)} {p : Nd × Value} (h : PutIn x B (.cells cs T (0, 0)) w v ps) (ht : Turned x w0 w v0 v ps0 ps) (hs : OwnsI w B p.2 p.1.kids) (hd : ∀ g ∈ fpOf p.2, Off x v ps g ∧ w0.heap.size ≤ g) (ho : OwnsR ndC 4 w2 B 70 v' (ps ++ [p])) (hg : w.grownBy w2 v.ownBlock) (hv : v'.ownBlock = v.ownBlock ∨ ∃ b, v'.ownBlock = some b ∧ w.heap.size ≤ b) :
    PutIn x B (.cells (cs.setIfInBounds j v') T (0, 0)) (w2.setCell ⟨x, j, none⟩ v') v' (ps ++ [p]) ∧ Turned x w0 (w2.setCell ⟨x, j, none⟩ v') v0 v' ps0 (ps ++ [p]) := by
  have hxv : some x ≠ v.ownBlock := h.nv
  have hx2 : w2.heap[x]? = some (.cells cs T (0, 0)) := (hg.block x (heap_in h.at_) hxv).trans h.at_
  have hne : ∀ g ∈ fpOf v', g ≠ x := fun g hg' e => by
    rcases hv with e2 | ⟨b, e2, hb⟩
    · exact hxv (by rw [← e2]; simp [fpOf] at hg'; rw [hg', e])
    · have h1 : g = b := by simpa [fpOf, e2] using hg'
      have := heap_in h.at_
      omega
  have hall := nd_apart h.phys h.nd
  unfold RowTy.all at hall
  rw [fps_cons, List.nodup_append] at hall
  have hsub : ∀ q ∈ ps, ∀ g ∈ fps (NdR.vals q), (w2.setCell ⟨x, j, none⟩ v').heap[g]? = w.heap[g]? := fun q hq g hgq => by
    have hin : g ∈ fps (ps.flatMap NdR.vals) := by
      obtain ⟨u, hu, hgu⟩ := List.mem_flatMap.mp hgq
      exact mem_fps (List.mem_flatMap.mpr ⟨q, hq, hu⟩) hgu
    have hb := NdR.sub_lt (h.phys.2 q hq) g hgq
    rw [kept_set (fun e => h.nx (by unfold RowTy.all; rw [fps_cons, ← e]; exact List.mem_append_right _ hin))]
    exact hg.block g hb.2 (fun e => hall.2.2 g (by simp [fpOf, ← e]) g hin rfl)
  have hp2 : ∀ g ∈ fpOf p.2, (w2.setCell ⟨x, j, none⟩ v').heap[g]? = w.heap[g]? := fun g hgp => by
    rw [kept_set (hd g hgp).1.x]
    exact hg.block g (OwnsR.lt hs g hgp).2 (fun e => (hd g hgp).1.v (by simp [fpOf, ← e]))
  refine ⟨⟨Lib.heap_setCell_same hx2 v', h.lb, ?_, ⟨?_, fun q hq => ?_⟩, ?_⟩, ?_⟩
  · intro hm
    unfold RowTy.all at hm
    rw [fps_cons, List.flatMap_append, fps_append] at hm
    rcases List.mem_append.mp hm with h1 | h1
    · exact hne x h1 rfl
    · rcases List.mem_append.mp h1 with h2 | h2
      · exact h.nx (by unfold RowTy.all; rw [fps_cons]; exact List.mem_append_right _ h2)
      · exact (hd x (by simpa [NdR, fps_one] using h2)).1.x rfl
  · have h3 : OwnsR ndC 4 (w2.setCell ⟨x, j, none⟩ v') B 70 v' (ps ++ [p]) := OwnsR.same ho (fun g hg' => kept_set (hne g hg'))
    exact h3
  · rcases List.mem_append.mp hq with h1 | h1
    · exact NdR.sub_same (h.phys.2 q h1) (hsub q h1)
    · have : q = p := by simpa using h1
      subst this
      have h2 : OwnsI (w2.setCell ⟨x, j, none⟩ v') B q.2 q.1.kids := OwnsR.same hs hp2
      exact h2
  · rw [List.flatMap_append, fps_append, List.nodup_append]
    refine ⟨h.nd, by have := fp_nodup p.2; simpa [NdR] using this, ?_⟩
    intro a ha b hb' e
    subst e
    have h2 : a ∈ fpOf p.2 := by simpa [NdR, fps_one] using hb'
    exact (hd a h2).1.ps ha
  · have T1 : Turned x w0 (w2.setCell ⟨x, j, none⟩ v') v0 v' ps0 ps := by
      refine ht.trans ⟨⟨hg.os, hg.tape, hg.output, by simp [World.setCell]; exact hg.size, fun g hgl hn => ?_⟩, fun g hg' => ?_, [], by simp, by simp [fps]⟩
      · rw [fps_two] at hn
        simp only [List.mem_cons, not_or] at hn
        rw [kept_set hn.1]
        exact hg.block g hgl (fun e => hn.2 (by simp [fpOf, ← e]))
      · rcases hv with e | ⟨b, e, hb⟩
        · exact .inl (by simpa [fpOf, e] using hg')
        · refine .inr ?_
          have : g = b := by simpa [fpOf, e] using hg'
          omega
    refine ⟨T1.kept, T1.head, ?_⟩
    obtain ⟨qs, hq, hq2⟩ := ht.tail
    refine ⟨qs ++ [p], by rw [hq, List.append_assoc], fun g hg' => ?_⟩
    rw [List.flatMap_append, fps_append] at hg'
    rcases List.mem_append.mp hg' with h1 | h1
    · exact hq2 g h1
    · have h2 : g ∈ fpOf p.2 := by simpa [NdR, fps_one] using h1
      exact (hd g h2).2

end Go.Proofs.Ytjafneaaefpefaa
