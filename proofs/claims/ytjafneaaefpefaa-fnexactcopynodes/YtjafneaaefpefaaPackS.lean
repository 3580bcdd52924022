/-
  Nodes put one behind the other, in the model.
-/
import Derived.Test.YtjafneaaefpefaaPack
namespace Go.Proofs.Ytjafneaaefpefaa
open Go.RowKit

/-- What a copy says: the row and the place, or that it could not be. -/
def PackSays (ns : List Nd) (d : Nat) (k : Int) (bad : Bool) (ps : List (Nd × Value)) (bad' : Bool) (ps' : List (Nd × Value)) (a : Int) : Prop :=
  (∀ r, bad = false → ps.length ≤ 300 → pack ns d k (ps.map Prod.fst) = some r → bad' = false ∧ ps'.map Prod.fst = r.1 ∧ a = r.2) ∧ ((bad = true ∨ 300 < ps.length ∨ pack ns d k (ps.map Prod.fst) = none) → bad' = true ∨ 300 < ps'.length)
def PackPost (ns : List Nd) (x B N fc : Nat) (fa : Option Addr) (d : Nat) (k : Int) (w : World) (v : Value) (ps : List (Nd × Value)) (bad : Bool) (e : Ending) (w' : World) : Prop :=
  ∃ (a : Int) (va : Option Addr) (vc : Nat) (ps' : List (Nd × Value)) (bad' : Bool), e = .returned (.int .i64 a) ∧ PutIn x B (.cells #[.slice fa N fc, .slice va ps'.length vc, .bool bad'] 98 (0, 0)) w' (.slice va ps'.length vc) ps' ∧ Turned x w w' v (.slice va ps'.length vc) ps ps' ∧ ps'.length ≤ 300 + d ∧ PackSays ns d k bad ps bad' ps' a
def PackCall (P : Program) (ns : List Nd) (x B N fc : Nat) (fa : Option Addr) (d : Nat) : Prop :=
  ∀ (k : Int) (w : World) (va : Option Addr) (vc : Nat) (ps : List (Nd × Value)) (bad : Bool), B ≤ w.heap.size → NdR.Row w B (.slice fa N fc) ns → PutIn x B (.cells #[.slice fa N fc, .slice va ps.length vc, .bool bad] 98 (0, 0)) w (.slice va ps.length vc) ps → ps.length ≤ 300 + d →
    Calls P 77 #[.pointer (some ⟨x, 0, none⟩), .int .i64 k, .int .i64 (11 - (d : Int))] w (PackPost ns x B N fc fa d k w (.slice va ps.length vc) ps bad)
/-- How far the kids of a node are copied. -/
structure PackSt (ns : List Nd) (x B N fc : Nat) (fa : Option Addr) (d : Nat) (w : World) (v : Value) (ps : List (Nd × Value)) (y : Nat) (kd nm : Int) (tx : ByteArray) (ks : List Int) (s : Nat) (wr : World) (va2 : Option Addr) (vc2 : Nat) (ps2 : List (Nd × Value)) (bad2 : Bool) (ka : Option Addr) (kn kc : Nat) (ks2 : List Int) : Prop where
  put : PutIn x B (.cells #[.slice fa N fc, .slice va2 ps2.length vc2, .bool bad2] 98 (0, 0)) wr (.slice va2 ps2.length vc2) ps2
  turned : Turned x w wr v (.slice va2 ps2.length vc2) ps ps2
  box : wr.heap[y]? = some (.cells #[.int .i64 kd, .int .i64 nm, .string tx, .slice ka kn kc] 70 (0, 0))
  kids : OwnsI wr (y + 1) (.slice ka kn kc) ks2
  off : ∀ g ∈ fpOf (.slice ka kn kc), Off x (.slice va2 ps2.length vc2) ps2 g
  offy : Off x (.slice va2 ps2.length vc2) ps2 y
  len : ps2.length ≤ 300 + d
  klen : ks2.length ≤ s
  yes : ∀ r, packL (pack ns d) (ks.take s) (ps.map Prod.fst) = some r → bad2 = false ∧ ps2.map Prod.fst = r.1 ∧ ks2 = r.2
  no : packL (pack ns d) (ks.take s) (ps.map Prod.fst) = none → bad2 = true ∨ 300 < ps2.length
theorem Turned.after {x : Nat} {w w1 w2 : World} {v v' : Value} {ps ps' : List (Nd × Value)} (h : Turned x w w1 v v' ps ps') (ho : w2.os = w1.os) (ht : w2.tape = w1.tape) (hu : w2.output = w1.output) (hs : w1.heap.size ≤ w2.heap.size) (hb : ∀ g, g < w.heap.size → w2.heap[g]? = w1.heap[g]?) : Turned x w w2 v v' ps ps' :=
  ⟨⟨ho.trans h.kept.os, ht.trans h.kept.tape, hu.trans h.kept.output, Nat.le_trans h.kept.size hs, fun g hg hn => (hb g hg).trans (h.kept.block g hg hn)⟩, h.head, h.tail⟩
/-- One kid more. -/
theorem PackSt.next {ns : List Nd} {x B N fc : Nat} {fa : Option Addr} {d : Nat} {w : World} {v : Value} {ps : List (Nd × Value)} {y : Nat} {kd nm : Int} {tx : ByteArray} {ks : List Int} {s : Nat} {wr : World} {va2 : Option Addr} {vc2 : Nat} {ps2 : List (Nd × Value)} {ka : Option Addr} {kn kc : Nat} {ks2 : List Int}
    (h : PackSt ns x B N fc fa d w v ps y kd nm tx ks s wr va2 vc2 ps2 false ka kn kc ks2) (hy : w.heap.size ≤ y) (hsk : s < ks.length)
    {w1 : World} {a : Int} {va3 : Option Addr} {vc3 : Nat} {ps3 : List (Nd × Value)} {bad3 : Bool} (hI : PutIn x B (.cells #[.slice fa N fc, .slice va3 ps3.length vc3, .bool bad3] 98 (0, 0)) w1 (.slice va3 ps3.length vc3) ps3) (hT : Turned x wr w1 (.slice va2 ps2.length vc2) (.slice va3 ps3.length vc3) ps2 ps3) (hl : ps3.length ≤ 300 + d) (hP : PackSays ns d ks[s] false ps2 bad3 ps3 a)
    {w4 : World} {ka4 : Option Addr} {kn4 kc4 : Nat} (hown : OwnsI w4 (y + 1) (.slice ka4 kn4 kc4) (ks2 ++ [a])) (hg : w1.grownBy w4 (Value.slice ka kn kc).ownBlock) (hat : (Value.slice ka4 kn4 kc4).ownBlock = (Value.slice ka kn kc).ownBlock ∨ ∃ b, (Value.slice ka4 kn4 kc4).ownBlock = some b ∧ w1.heap.size ≤ b) :
    PackSt ns x B N fc fa d w v ps y kd nm tx ks (s + 1) (w4.setCell ⟨y, 3, none⟩ (.slice ka4 kn4 kc4)) va3 vc3 ps3 bad3 ka4 kn4 kc4 (ks2 ++ [a]) := by
  have hyr : y < wr.heap.size := heap_in h.box
  have hoy : Off x (.slice va3 ps3.length vc3) ps3 y := hT.off hyr h.offy
  have hok : ∀ g ∈ fpOf (.slice ka kn kc), Off x (.slice va3 ps3.length vc3) ps3 g := fun g hg' => hT.off (OwnsR.lt h.kids g hg').2 (h.off g hg')
  have hky : ∀ g ∈ fpOf (.slice ka kn kc), y + 1 ≤ g := fun g hg' => (OwnsR.lt h.kids g hg').1
  have hb4 : ∀ g, g < w1.heap.size → g ∉ fpOf (.slice ka kn kc) → w4.heap[g]? = w1.heap[g]? := fun g hgl hn => hg.block g hgl (fun e => hn (by simp [fpOf, ← e]))
  have hI4 : PutIn x B (.cells #[.slice fa N fc, .slice va3 ps3.length vc3, .bool bad3] 98 (0, 0)) w4 (.slice va3 ps3.length vc3) ps3 := hI.keep (fun g hg' => hb4 g (by
      rcases hg' with rfl | h1
      · exact heap_in hI.at_
      · exact (hI.phys.lt g h1).2) (fun hk => by
      rcases hg' with e | h1
      · exact (hok g hk).x e
      · unfold RowTy.all at h1
        rw [fps_cons] at h1
        rcases List.mem_append.mp h1 with h2 | h2
        · exact (hok g hk).v h2
        · exact (hok g hk).ps h2))
  have hy1 : y < w1.heap.size := Nat.lt_of_lt_of_le hyr hT.size
  have hbx1 : w1.heap[y]? = wr.heap[y]? := hT.block hyr h.offy.x h.offy.v
  have hbx4 : w4.heap[y]? = w1.heap[y]? := hb4 y hy1 (fun hk => by have := hky y hk; omega)
  have hk4 : ∀ g ∈ fpOf (.slice ka4 kn4 kc4), y + 1 ≤ g := fun g hg' => (OwnsR.lt hown g hg').1
  refine ⟨hI4.set hoy, ?_, ?_, OwnsR.same hown (fun g hg' => kept_set (by have := hk4 g hg'; omega)), ?_, hoy, hl, by rw [List.length_append, List.length_singleton]; have := h.klen; omega, ?_, ?_⟩
  · refine (h.turned.trans hT).after hg.os hg.tape hg.output (by simp [World.setCell]; exact hg.size) (fun g hgl => ?_)
    rw [kept_set (by omega)]
    exact hb4 g (by have := h.turned.size; have := hT.size; omega) (fun hk => by have := hky g hk; omega)
  · have := Lib.heap_setCell_same (i := 3) (hbx4.trans (hbx1.trans h.box)) (.slice ka4 kn4 kc4)
    simpa using this
  · intro g hg'
    rcases hat with e | ⟨b, e, hb⟩
    · exact hok g (by simpa [fpOf, e] using hg')
    · have : g = b := by simpa [fpOf, e] using hg'
      exact hI.off (by omega)
  · intro r hr
    rw [List.take_succ_eq_append_getElem hsk, packL_snoc, Option.bind_eq_some_iff] at hr
    obtain ⟨r1, h1, hr⟩ := hr
    rw [Option.bind_eq_some_iff] at hr
    obtain ⟨r2, h2, h3⟩ := hr
    obtain ⟨_, hp2, hk2⟩ := h.yes r1 h1
    cases h3
    have hle : ps2.length ≤ 300 := by
      have h5 := pack_pre ns d _ _ _ h2
      rw [← hp2] at h5
      have := h5.1
      simp at this
      omega
    have h4 := hP.1 r2 rfl hle (by rw [hp2]; exact h2)
    exact ⟨h4.1, h4.2.1, by rw [hk2, h4.2.2]⟩
  · intro hr
    rw [List.take_succ_eq_append_getElem hsk, packL_snoc] at hr
    cases h1 : packL (pack ns d) (ks.take s) (ps.map Prod.fst) with
    | none =>
      rcases h.no h1 with h2 | h2
      · cases h2
      · exact hP.2 (.inr (.inl h2))
    | some r1 =>
      rw [h1] at hr
      simp only [Option.bind_some] at hr
      cases h2 : pack ns d ks[s] r1.1 with
      | none => exact hP.2 (.inr (.inr (by rw [(h.yes r1 h1).2.1]; exact h2)))
      | some r2 => rw [h2] at hr; simp at hr

/-- What is refused: the mark is set. -/
theorem pack_no {ns : List Nd} {x B N fc vc d : Nat} {fa va : Option Addr} {k : Int} {w w1 : World} {ps : List (Nd × Value)} {bad : Bool} (hI : PutIn x B (.cells #[.slice fa N fc, .slice va ps.length vc, .bool bad] 98 (0, 0)) w (.slice va ps.length vc) ps) (hb : Below w.heap.size w w1) (hl : ps.length ≤ 300 + d) (hno : bad = true ∨ 300 < ps.length ∨ pack ns d k (ps.map Prod.fst) = none) (e : Ending) (he : e = .returned (.int .i64 (-1))) :
    PackPost ns x B N fc fa d k w (.slice va ps.length vc) ps bad e (w1.setCell ⟨x, 2, none⟩ (.bool true)) := by
  have h1 := hI.below hb
  have hx : ∀ g ∈ fps (NdR.all (.slice va ps.length vc) ps), g ≠ x := fun g hg e => hI.nx (e ▸ hg)
  refine ⟨-1, va, vc, ps, true, he, ⟨?_, hI.lb, hI.nx, h1.phys.same (fun g hg => kept_set (hx g hg)), hI.nd⟩, ?_, hl, ?_, fun _ => .inl rfl⟩
  · have := Lib.heap_setCell_same (i := 2) h1.at_ (.bool true)
    simpa using this
  · refine ⟨⟨hb.os, hb.tape, hb.output, by simp [World.setCell]; exact hb.size, fun g hg hn => ?_⟩, fun _ h => .inl h, [], by simp, by simp [fps]⟩
    rw [fps_two] at hn
    simp only [List.mem_cons, not_or] at hn
    rw [kept_set hn.1]
    exact hb.block g hg
  · intro r h1 h2 h3
    rcases hno with h | h | h
    · rw [h] at h1; cases h1
    · omega
    · rw [h] at h3; cases h3

/-- All kids are there, or it could not be: the node behind them. -/
theorem PackSt.done {ns : List Nd} {x B N fc : Nat} {fa : Option Addr} {d : Nat} {w : World} {v : Value} {ps : List (Nd × Value)} {y : Nat} {kd nm : Int} {tx : ByteArray} {ks : List Int} {s : Nat} {wr : World} {va2 : Option Addr} {vc2 : Nat} {ps2 : List (Nd × Value)} {bad2 : Bool} {ka : Option Addr} {kn kc : Nat} {ks2 : List Int}
    (h : PackSt ns x B N fc fa d w v ps y kd nm tx ks s wr va2 vc2 ps2 bad2 ka kn kc ks2) (hend : s = ks.length ∨ bad2 = true) {m : Nat} (hin : isIn (m : Int) 0 ((ns.length : Int) - 1) = true) (hq : ns.getD m nd0 = ⟨kd, nm, tx, ks⟩) :
    PackSays ns (d + 1) (m : Int) false ps bad2 (ps2 ++ [(⟨kd, nm, tx, ks2⟩, .slice ka kn kc)]) (ps2.length : Int) := by
  have hp : pack ns (d + 1) (m : Int) (ps.map Prod.fst) = (packL (pack ns d) ks (ps.map Prod.fst)).bind fun r => if 300 ≤ r.1.length then none else some (r.1 ++ [⟨kd, nm, tx, r.2⟩], (r.1.length : Int)) := by
    simp only [pack]
    rw [if_pos hin, Int.toNat_natCast, hq]
  have hall : packL (pack ns d) ks (ps.map Prod.fst) ≠ none → s = ks.length := fun hn => by
    rcases hend with e | e
    · exact e
    · exfalso
      cases h1 : packL (pack ns d) (ks.take s) (ps.map Prod.fst) with
      | none => exact hn (packL_take_none h1)
      | some r => have := (h.yes r h1).1; rw [e] at this; cases this
  constructor
  · intro r _ _ hr
    rw [hp, Option.bind_eq_some_iff] at hr
    obtain ⟨r1, h1, h2⟩ := hr
    have hs := hall (by rw [h1]; simp)
    obtain ⟨hb, hp2, hk2⟩ := h.yes r1 (by rw [hs, List.take_length]; exact h1)
    split at h2
    · cases h2
    · cases h2
      refine ⟨hb, ?_, ?_⟩
      · rw [List.map_append, hp2, hk2]
        rfl
      · rw [← hp2, List.length_map]
  · intro hno
    cases h1 : packL (pack ns d) ks (ps.map Prod.fst) with
    | none =>
      rcases hend with e | e
      · rcases h.no (by rw [e, List.take_length]; exact h1) with h2 | h2
        · exact .inl h2
        · refine .inr ?_
          rw [List.length_append, List.length_singleton]
          omega
      · exact .inl e
    | some r1 =>
      rcases hno with h2 | h2 | h2
      · cases h2
      · refine .inr ?_
        obtain ⟨qs, hqs, _⟩ := h.turned.tail
        rw [hqs, List.length_append, List.length_append]
        omega
      · rw [hp, h1] at h2
        simp only [Option.bind_some] at h2
        split at h2
        · rename_i h3
          have hs := hall (by rw [h1]; simp)
          obtain ⟨_, hp2, _⟩ := h.yes r1 (by rw [hs, List.take_length]; exact h1)
          refine .inr ?_
          rw [← hp2, List.length_map] at h3
          rw [List.length_append, List.length_singleton]
          omega
        · cases h2

end Go.Proofs.Ytjafneaaefpefaa
