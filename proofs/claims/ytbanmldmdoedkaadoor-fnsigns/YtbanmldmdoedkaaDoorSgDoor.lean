/-
  What the program answers in chapter 3, where the table of marks and the powers of ten lie as their texts lay them.
-/
import Derived.Test.YtbanmldmdoedkaaDoorSignsI
import Derived.Test.YtbanmldmdoedkaaDoorSignTI
namespace Go.Proofs.YtbanmldmdoedkaaDoor
open Go.RowKit

def DoorOk2 (w : World) : Prop := MarksOk w ∧ Tab10 w
theorem DoorOk2.below {w w1 : World} (h : DoorOk2 w) (hb : Below w.heap.size w w1) : DoorOk2 w1 := ⟨h.1.below hb, h.2.below hb⟩

theorem implSignsOf_2 (t : ByteArray) (w : World) (ht : t.size ≤ 1048576) (hd : DoorOk2 w) :
    Calls Tryd.prog 6 #[.string t] w fun e w' => ∃ v, e = .returned (.tuple #[v, .bool (signsOf t).2]) ∧ OwnsSg w' w.heap.size v (signsOf t).1 ∧ Below w.heap.size w w' := implSignsOf_any t w ht hd.1
theorem implKeyWord_2 (s : ByteArray) (w : World) (hs : s.size ≤ 1048576) (_ : DoorOk2 w) :
    Calls Tryd.prog 17 #[.string s] w fun e w' => e = .returned (.bool (isKey s)) ∧ Below w.heap.size w w' := implKeyWord_any s w (Nat.le_trans hs (by decide))
theorem implNameOk_2 (s : ByteArray) (w : World) (hs : s.size ≤ 1048576) (_ : DoorOk2 w) :
    Calls Tryd.prog 19 #[.string s] w fun e w' => e = .returned (.bool (nameOk s)) ∧ Below w.heap.size w w' := implNameOk_any s w (Nat.le_trans hs (by decide))
theorem implSignText_2 (B : Nat) (v : Value) (ss : List Sg) (w : World) (hB : B ≤ w.heap.size) (hv : RowSg w B v ss) (hl : ss.length ≤ 1048576) (hn : ∀ s ∈ ss, 0 ≤ s.num ∧ s.num ≤ 1000000000) (ht : (textTo ss ss.length).length ≤ 1000000000) (hd : DoorOk2 w) :
    Calls Tryd.prog 12 #[v] w fun e w' => e = .returned (.string (signText ss)) ∧ Below w.heap.size w w' := implSignText_at B v ss w hB hv hl hn ht hd.2

end Go.Proofs.YtbanmldmdoedkaaDoor
