/-
  Nodes put one behind the other, in the program: what is known meanwhile.
-/
import Derived.Test.YtjafneaaefpefaaPackS
import Derived.Test.YtjafneaaefpefaaClone
namespace Go.Proofs.Ytjafneaaefpefaa
open Go.RowKit

def CopyPost (ns : List Nd) (x B N fc : Nat) (fa : Option Addr) (d : Nat) (k : Int) (w : World) (v : Value) (ps : List (Nd × Value)) (e : Ending) (w' : World) : Prop :=
  ∃ (va : Option Addr) (vc : Nat) (ps' : List (Nd × Value)), PutIn x B (.cells #[.slice fa N fc, .slice va ps'.length vc] 101 (0, 0)) w' (.slice va ps'.length vc) ps' ∧ Turned x w w' v (.slice va ps'.length vc) ps ps' ∧ ps'.length ≤ max ps.length 300 ∧
    ((∃ r, pack ns d k (ps.map Prod.fst) = some r ∧ ps'.map Prod.fst = r.1 ∧ e = .returned (.tuple #[.int .i64 r.2, .bool true])) ∨ (pack ns d k (ps.map Prod.fst) = none ∧ e = .returned (.tuple #[.int .i64 0, .bool false])))
def CopyCall (P : Program) (ns : List Nd) (x B N fc : Nat) (fa : Option Addr) (d : Nat) : Prop :=
  ∀ (k : Int) (w : World) (va : Option Addr) (vc : Nat) (ps : List (Nd × Value)), B ≤ w.heap.size → NdR.Row w B (.slice fa N fc) ns → PutIn x B (.cells #[.slice fa N fc, .slice va ps.length vc] 101 (0, 0)) w (.slice va ps.length vc) ps → ps.length ≤ 1048576 →
    Calls P 79 #[.pointer (some ⟨x, 0, none⟩), .int .i64 k, .int .i64 (d : Int)] w (CopyPost ns x B N fc fa d k w (.slice va ps.length vc) ps)
/-- How far the kids of a node are copied. -/
structure CopySt (ns : List Nd) (x B N fc : Nat) (fa : Option Addr) (d : Nat) (w : World) (v : Value) (ps : List (Nd × Value)) (y : Nat) (o : Obj) (ks : List Int) (s : Nat) (wr : World) (va2 : Option Addr) (vc2 : Nat) (ps2 : List (Nd × Value)) (ka : Option Addr) (kn kc : Nat) (ks2 : List Int) : Prop where
  put : PutIn x B (.cells #[.slice fa N fc, .slice va2 ps2.length vc2] 101 (0, 0)) wr (.slice va2 ps2.length vc2) ps2
  turned : Turned x w wr v (.slice va2 ps2.length vc2) ps ps2
  box : wr.heap[y]? = some o
  kids : OwnsI wr (y + 1) (.slice ka kn kc) ks2
  off : ∀ g ∈ fpOf (.slice ka kn kc), Off x (.slice va2 ps2.length vc2) ps2 g
  offy : Off x (.slice va2 ps2.length vc2) ps2 y
  len : ps2.length ≤ max ps.length 300
  klen : ks2.length ≤ s
  yes : packL (pack ns d) (ks.take s) (ps.map Prod.fst) = some (ps2.map Prod.fst, ks2)
theorem CopySt.next {ns : List Nd} {x B N fc : Nat} {fa : Option Addr} {d : Nat} {w : World} {v : Value} {ps : List (Nd × Value)} {y : Nat} {o : Obj} {ks : List Int} {s : Nat} {wr : World} {va2 : Option Addr} {vc2 : Nat} {ps2 : List (Nd × Value)} {ka : Option Addr} {kn kc : Nat} {ks2 : List Int}
    (h : CopySt ns x B N fc fa d w v ps y o ks s wr va2 vc2 ps2 ka kn kc ks2) (hy : w.heap.size ≤ y) (hsk : s < ks.length)
    {w1 : World} {va3 : Option Addr} {vc3 : Nat} {ps3 : List (Nd × Value)} (hI : PutIn x B (.cells #[.slice fa N fc, .slice va3 ps3.length vc3] 101 (0, 0)) w1 (.slice va3 ps3.length vc3) ps3) (hT : Turned x wr w1 (.slice va2 ps2.length vc2) (.slice va3 ps3.length vc3) ps2 ps3) (hl : ps3.length ≤ max ps2.length 300) (r : List Nd × Int) (hr : pack ns d ks[s] (ps2.map Prod.fst) = some r) (hp : ps3.map Prod.fst = r.1)
    {w4 : World} {ka4 : Option Addr} {kn4 kc4 : Nat} (hown : OwnsI w4 (y + 1) (.slice ka4 kn4 kc4) (ks2 ++ [r.2])) (hg : w1.grownBy w4 (Value.slice ka kn kc).ownBlock) (hat : (Value.slice ka4 kn4 kc4).ownBlock = (Value.slice ka kn kc).ownBlock ∨ ∃ b, (Value.slice ka4 kn4 kc4).ownBlock = some b ∧ w1.heap.size ≤ b) :
    CopySt ns x B N fc fa d w v ps y o ks (s + 1) w4 va3 vc3 ps3 ka4 kn4 kc4 (ks2 ++ [r.2]) := by
  have hyr : y < wr.heap.size := heap_in h.box
  have hoy : Off x (.slice va3 ps3.length vc3) ps3 y := hT.off hyr h.offy
  have hok : ∀ g ∈ fpOf (.slice ka kn kc), Off x (.slice va3 ps3.length vc3) ps3 g := fun g hg' => hT.off (OwnsR.lt h.kids g hg').2 (h.off g hg')
  have hky : ∀ g ∈ fpOf (.slice ka kn kc), y + 1 ≤ g := fun g hg' => (OwnsR.lt h.kids g hg').1
  have hb4 : ∀ g, g < w1.heap.size → g ∉ fpOf (.slice ka kn kc) → w4.heap[g]? = w1.heap[g]? := fun g hgl hn => hg.block g hgl (fun e => hn (by simp [fpOf, ← e]))
  have hI4 : PutIn x B (.cells #[.slice fa N fc, .slice va3 ps3.length vc3] 101 (0, 0)) w4 (.slice va3 ps3.length vc3) ps3 := hI.keep (fun g hg' => hb4 g (by
      rcases hg' with rfl | h1
      · exact heap_in hI.at_
      · exact (hI.phys.lt g h1).2) (fun hk => by
      rcases hg' with e | h1
      · exact (hok g hk).x e
      · unfold RowTy.all at h1
        rw [fps_cons] at h1
        rcases List.mem_append.mp h1 with h2 | h2
        · exact (hok g hk).v h2
        · exact (hok g hk).ps h2))
  have hy1 : y < w1.heap.size := Nat.lt_of_lt_of_le hyr hT.size
  have hbx1 : w1.heap[y]? = wr.heap[y]? := hT.block hyr h.offy.x h.offy.v
  have hbx4 : w4.heap[y]? = w1.heap[y]? := hb4 y hy1 (fun hk => by have := hky y hk; omega)
  refine ⟨hI4, ?_, hbx4.trans (hbx1.trans h.box), hown, ?_, hoy, by have := h.len; omega, by rw [List.length_append, List.length_singleton]; have := h.klen; omega, ?_⟩
  · exact (h.turned.trans hT).after hg.os hg.tape hg.output hg.size (fun g hgl => hb4 g (by have := h.turned.size; have := hT.size; omega) (fun hk => by have := hky g hk; omega))
  · intro g hg'
    rcases hat with e | ⟨b, e, hb⟩
    · exact hok g (by simpa [fpOf, e] using hg')
    · have : g = b := by simpa [fpOf, e] using hg'
      exact hI.off (by omega)
  · rw [List.take_succ_eq_append_getElem hsk, packL_snoc, h.yes]
    simp only [Option.bind_some]
    rw [hr, hp]
    rfl
theorem pack_one {ns : List Nd} {d m : Nat} {kd nm : Int} {tx : ByteArray} {ks : List Int} (tt : List Nd) (hin : isIn (m : Int) 0 ((ns.length : Int) - 1) = true) (hq : ns.getD m nd0 = ⟨kd, nm, tx, ks⟩) :
    pack ns (d + 1) (m : Int) tt = (packL (pack ns d) ks tt).bind fun r => if 300 ≤ r.1.length then none else some (r.1 ++ [⟨kd, nm, tx, r.2⟩], (r.1.length : Int)) := by
  simp only [pack]
  rw [if_pos hin, Int.toNat_natCast, hq]

end Go.Proofs.Ytjafneaaefpefaa
