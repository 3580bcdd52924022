/-
  Append of a whole row to a row of the call's own. No program is named here.
-/
import Derived.Test.YtabejilnpblogaaKa
import Derived.Maps.AppendAt
import Derived.Laws.OwnMore
import Derived.Laws.AppendOwnNone
namespace Go.Proofs.Ytabejilnpblogaa
open Go.RowKit

/-- A slice that is nil has no room. -/
def nilOk : Value → Prop
  | .slice none n c => n = 0 ∧ c = 0
  | _ => True
theorem OwnsR.nilOk {α : Type} {k : Nat} {enc : α → List Value} {w : World} {B : Nat} {e : TypeId} {v : Value} {xs : List α} (h : OwnsR enc k w B e v xs) : nilOk v := by
  rcases OwnsR.form h with ⟨rfl, _⟩ | ⟨g, cap, rfl, _⟩
  · exact ⟨rfl, rfl⟩
  · exact trivial
theorem form_slice {α : Type} {k : Nat} {enc : α → List Value} {w : World} {B : Nat} {e : TypeId} {v : Value} {xs : List α} (h : OwnsR enc k w B e v xs) : ∃ a n c, v = .slice a n c := by
  rcases OwnsR.form h with ⟨rfl, _⟩ | ⟨g, cap, rfl, _⟩
  · exact ⟨_, _, _, rfl⟩
  · exact ⟨_, _, _, rfl⟩

/-- 'append(s, x...)'. -/
theorem appendRow {α : Type} {k : Nat} {enc : α → List Value} (henc : ∀ x, (enc x).length = k) {P : Program} {w0 : World} {ops : Array Oper} {rest : List Oper} {o : Oper} {a : Act} {Q : Exit → Act → World → Prop}
    (hgd : o.guard = none) (s x : Operand) (t : TypeId) (ho : o.op = .call { callee := .builtin .append, args := #[s, x], argTypes := #[t, t] })
    (B : Nat) (e : TypeId) (z : Value) (bytes : Nat) (ht : P.underlying t = some (.slice e)) (hi : (P.info? e).map (fun i => (i.zero, i.size, i.bytes)) = some (some z, k, bytes)) (hzs : z.cells.size = k) (hk : 0 < k)
    {v : Value} {xs : List α} (hown : OwnsR enc k w0 B e v xs) (ys : List α) (H : Nat) (xa : Option Addr) (m c : Nat) (hsrc : RowR enc k w0 H (.slice xa m c) ys) (hnil : nilOk (.slice xa m c)) (hone : ∀ y ∈ ys, ∀ u ∈ enc y, u.oneCell' = true) (hs : a.eval s = v) (hx : a.eval x = .slice xa m c)
    (hlen : xs.length + ys.length ≤ 10000000) (hby : bytes ≤ 1000) (hB : B ≤ w0.heap.size)
    (h : ∀ a' n' c' w', OwnsR enc k w' B e (.slice a' n' c') (xs ++ ys) → w0.grownBy w' v.ownBlock → ((Value.slice a' n' c').ownBlock = v.ownBlock ∨ (Value.slice a' n' c').ownBlock = some w0.heap.size) → wpList P ops Q rest (a.put o.dst (.slice a' n' c')) w') :
    wpList P ops Q (o :: rest) a w0 := by
  obtain ⟨i, hi, hz0, hz1, hz2⟩ := info_parts hi
  have hm := hsrc.cap.1
  cases xa with
  | none =>
    obtain ⟨rfl, rfl⟩ := hnil
    obtain rfl : ys = [] := List.eq_nil_of_length_eq_zero hm
    obtain ⟨a', n', c', rfl⟩ := form_slice hown
    exact wpList_append_own_none hgd s x t ho B e i k ht hi _ xs.length (xs.flatMap enc) hs hown hx (h a' n' c' w0 (by simpa using hown) (World.grownBy.refl _ _) (.inl rfl))
  | some ad =>
    have hbt : (xs.length + m) * bytes ≤ 140737488355328 := by
      have : (xs.length + m) * bytes ≤ 10000000 * 1000 := Nat.mul_le_mul (by omega) hby
      omega
    refine wpList_append_own_at _ hgd s x t ho B e i z k bytes ht hi hz0 hz1 hz2 hzs hk v xs.length (xs.flatMap enc) hs hown ad m c (ys.flatMap enc) hx (by rw [flat_len henc, hm]) ?_ ?_ (by unfold maxLen; omega) hbt hB ?_
    · intro j u hj
      have hjl : j < ys.length * k := by
        rcases Nat.lt_or_ge j (ys.length * k) with h1 | h1
        · exact h1
        · rw [List.getElem?_eq_none (by rw [flat_len henc]; omega)] at hj
          cases hj
      have hq : j / k < ys.length := Nat.div_lt_of_lt_mul (by rw [Nat.mul_comm]; exact hjl)
      have hr : j % k < k := Nat.mod_lt _ hk
      have hjk : j / k * k + j % k = j := by rw [Nat.mul_comm]; exact Nat.div_add_mod j k
      obtain ⟨b, off, e1, _, hc⟩ := RowR.at hsrc (j / k) hq
      cases e1
      have h2 := flat_at henc ys (j / k) (j % k) hq hr
      rw [hjk] at h2
      have ha : (⟨b, off, none⟩ : Addr).add j = ⟨b, off + j, none⟩ := by unfold Addr.add; split <;> simp_all
      have h3 := hc (j % k) hr
      rw [show off + j / k * k + j % k = off + j by omega] at h3
      rw [ha, h3, ← h2, hj]
    · intro u hu
      obtain ⟨y, hy, hyu⟩ := List.mem_flatMap.mp hu
      exact hone y hy u hyu
    intro v' w' h1 h2 _ h4
    have ho2 : OwnsR enc k w' B e v' (xs ++ ys) := by
      unfold OwnsR
      rw [List.flatMap_append, List.length_append, show xs.length + ys.length = xs.length + m by rw [hm]]
      exact h1
    obtain ⟨a', n', c', rfl⟩ := form_slice ho2
    exact h a' n' c' w' ho2 h2 h4
theorem owns_emptyAt {α : Type} {k : Nat} {enc : α → List Value} {w : World} {B b : Nat} {e : TypeId} (h : w.heap[b]? = some (.cells #[] e (0, 0))) (hb : B ≤ b) : OwnsR enc k w B e (.slice (some ⟨b, 0, none⟩) 0 0) [] :=
  ⟨by simp, .inr ⟨b, 0, _, rfl, hb, h, Nat.le_refl _, Nat.zero_le _, by simp, by simp⟩⟩

end Go.Proofs.Ytabejilnpblogaa
