/-
  Chapter 6, plainly: values in words. No program, no world.
-/
import Derived.Test.YtancoijbcobafaaGreatDoorPlain19
import Derived.Test.YtancoijbcobafaaGreatDoorPlain3
import Derived.Lib.ItoaLen
namespace Go.Proofs.YtancoijbcobafaaGreatDoor

def sgnL (k : Int) : List UInt8 := if k = 9 then [32, 43, 32] else if k = 10 then [32, 60, 32] else [32, 61, 61, 32]
/-- The first n of values, with a comma between. -/
def argTo (g : Int → List UInt8) (cs : List Int) : Nat → List UInt8
  | 0 => []
  | n + 1 => argTo g cs n ++ (if n = 0 then [] else [44, 32]) ++ g (cs.getD n 0)
/-- A value that stands in another one. -/
def parL (ns : List Nd) (g : Int → List UInt8) (c : Int) : List UInt8 := if isIn (ns.getD c.toNat nd0).kind 9 11 = true then [40] ++ g c ++ [41] else g c
/-- A value in words, what its kids say being given. -/
def valBody (ns : List Nd) (g : Int → List UInt8) (x : Nd) : List UInt8 :=
  if x.kind = 1 then Lib.itoa x.num
  else if x.kind = 2 then x.name.data.toList
  else if x.kind = 3 then [42] ++ x.name.data.toList
  else if x.kind = 4 then [99, 108, 111, 110, 101, 32] ++ x.name.data.toList
  else if x.kind = 5 then [38] ++ x.name.data.toList
  else if x.kind = 6 then [38, 109, 117, 116, 32] ++ x.name.data.toList
  else if x.kind = 7 then [105, 110, 112, 117, 116]
  else if x.kind = 8 then [110, 101, 119, 32] ++ parL ns g (x.kids.getD 0 0)
  else if x.kind = 12 then x.name.data.toList ++ [40] ++ argTo g x.kids x.kids.length ++ [41]
  else parL ns g (x.kids.getD 0 0) ++ sgnL x.kind ++ parL ns g (x.kids.getD 1 0)
def valF (ns : List Nd) : Nat → Int → List UInt8
  | 0, _ => []
  | f + 1, k => valBody ns (valF ns f) (ns.getD k.toNat nd0)
def valL (ns : List Nd) (k : Int) : List UInt8 := valF ns (k.toNat + 1) k

theorem argTo_congr {g h : Int → List UInt8} {cs : List Int} (H : ∀ c ∈ cs, g c = h c) : ∀ n, n ≤ cs.length → argTo g cs n = argTo h cs n := by
  intro n
  induction n with
  | zero => intro _; rfl
  | succ n ih =>
    intro hn
    have hm : cs.getD n 0 ∈ cs := by
      have : n < cs.length := by omega
      simp only [List.getD, List.getElem?_eq_getElem this, Option.getD_some]
      exact List.getElem_mem this
    simp only [argTo]
    rw [ih (by omega), H _ hm]
theorem getD_at {cs : List Int} {n : Nat} (h : n < cs.length) : cs.getD n 0 = cs[n] := by
  simp only [List.getD, List.getElem?_eq_getElem h, Option.getD_some]
theorem getD_mem {cs : List Int} {n : Nat} (h : n < cs.length) : cs.getD n 0 ∈ cs := by
  simp only [List.getD, List.getElem?_eq_getElem h, Option.getD_some]
  exact List.getElem_mem h
/-- The number of kids of a value. -/
structure ValKids (x : Nd) : Prop where
  val : 1 ≤ x.kind ∧ x.kind ≤ 12
  one : x.kind = 8 → x.kids.length = 1
  two : 9 ≤ x.kind → x.kind ≤ 11 → x.kids.length = 2
  few : x.kids.length ≤ 3
  num : 0 ≤ x.num ∧ x.num ≤ 1000000000
  name : x.name.size ≤ 8
theorem valKids {ns : List Nd} {k : Nat} (h : nodeOk ns (k : Int) = true) (hv : isVal (ns.getD k nd0).kind = true) : ValKids (ns.getD k nd0) := by
  unfold nodeOk at h
  simp only [Bool.and_eq_true, Int.toNat_natCast] at h
  have h2 := h.1.2
  unfold headOk at h2
  simp only [Bool.and_eq_true] at h2
  obtain ⟨⟨⟨⟨⟨a1, a2⟩, a3⟩, a4⟩, a5⟩, a6⟩ := h2
  generalize ns.getD k nd0 = x at hv a1 a2 a3 a4 a5 a6 ⊢
  have hk : 1 ≤ x.kind ∧ x.kind ≤ 12 := by simpa [isVal, isIn] using hv
  have ha2 : kidsLow x.kind ≤ (x.kids.length : Int) ∧ (x.kids.length : Int) ≤ kidsHigh x.kind := by simpa [isIn] using a2
  refine ⟨hk, fun e => ?_, fun e1 e2 => ?_, ?_, by simpa [isIn] using a3, ?_⟩
  · rw [e] at ha2
    simp [kidsLow, kidsHigh] at ha2
    omega
  · have : x.kind = 9 ∨ x.kind = 10 ∨ x.kind = 11 := by omega
    rcases this with e | e | e <;> (rw [e] at ha2; simp [kidsLow, kidsHigh] at ha2; omega)
  · have h3 : kidsHigh x.kind ≤ 3 := by
      unfold kidsHigh
      split
      · omega
      · split
        · omega
        · split
          · omega
          · split
            · omega
            · omega
    omega
  · rcases Bool.or_eq_true _ _ ▸ a6 with e | e
    · have : x.name.size = 0 := by simpa using e
      omega
    · unfold nameOk at e
      simp only [Bool.and_eq_true, decide_eq_true_eq] at e
      exact e.1.1.1.2
theorem valBody_congr {ns : List Nd} {g h : Int → List UInt8} {x : Nd} (hx : ValKids x) (H : ∀ c ∈ x.kids, g c = h c) : valBody ns g x = valBody ns h x := by
  have hp : ∀ c ∈ x.kids, parL ns g c = parL ns h c := fun c hc => by unfold parL; rw [H c hc]
  unfold valBody
  by_cases h8 : x.kind = 8
  · have := hp _ (getD_mem (cs := x.kids) (n := 0) (by rw [hx.one h8]; omega))
    rw [this]
    simp [h8]
  · by_cases h12 : x.kind = 12
    · rw [argTo_congr H _ (Nat.le_refl _)]
      simp [h12]
    · by_cases h9 : 9 ≤ x.kind
      · have hl := hx.two h9 (by have := hx.val; omega)
        rw [hp _ (getD_mem (cs := x.kids) (n := 0) (by omega)), hp _ (getD_mem (cs := x.kids) (n := 1) (by omega)), if_neg h8, if_neg h8, if_neg h12, if_neg h12]
      · have := hx.val
        have hc : x.kind = 1 ∨ x.kind = 2 ∨ x.kind = 3 ∨ x.kind = 4 ∨ x.kind = 5 ∨ x.kind = 6 ∨ x.kind = 7 := by omega
        rcases hc with e | e | e | e | e | e | e <;> simp [e]
/-- Kids of values are values. -/
theorem kid_val {ns : List Nd} {k : Nat} (h : nodeOk ns (k : Int) = true) (hv : isVal (ns.getD k nd0).kind = true) : ∀ c ∈ (ns.getD k nd0).kids, isVal (ns.getD c.toNat nd0).kind = true := by
  intro c hc
  unfold nodeOk at h
  simp only [Bool.and_eq_true, Int.toNat_natCast] at h
  obtain ⟨j, hj, hjc⟩ := List.getElem_of_mem hc
  have h1 := kidsTo_at h.2 j hj
  unfold kidOk at h1
  simp only [Bool.and_eq_true] at h1
  have h2 := h1.1.2
  have h3 : (ns.getD k nd0).kids.getD j 0 = c := (getD_at hj).trans hjc
  rw [h3] at h2
  have hk : 1 ≤ (ns.getD k nd0).kind ∧ (ns.getD k nd0).kind ≤ 12 := by simpa [isVal, isIn] using hv
  unfold fits at h2
  rw [if_neg (by omega), if_neg (by omega), if_neg (by omega)] at h2
  exact h2
theorem valF_eq {ns : List Nd} {m : Nat} (hm : m < ns.length) (hd : deepOf ns (m : Int) ≠ 0) : ∀ k : Nat, k ≤ m → isVal (ns.getD k nd0).kind = true → ∀ f g, k < f → k < g → valF ns f (k : Int) = valF ns g (k : Int) := by
  intro k
  induction k using Nat.strongRecOn with
  | _ k ih =>
    intro hk hv f g hf hg
    obtain ⟨f, rfl⟩ : ∃ f', f = f' + 1 := ⟨f - 1, by omega⟩
    obtain ⟨g, rfl⟩ : ∃ g', g = g' + 1 := ⟨g - 1, by omega⟩
    have hok := deep_nodes hm hd k hk
    simp only [valF, Int.toNat_natCast]
    refine valBody_congr (valKids hok hv) (fun c hc => ?_)
    have hb := ahead_of hm hd k hk c hc
    have hvc := kid_val hok hv c hc
    obtain ⟨n, rfl⟩ : ∃ n : Nat, c = (n : Int) := ⟨c.toNat, by omega⟩
    rw [Int.toNat_natCast] at hvc
    exact ih n (by omega) (by omega) hvc f g (by omega) (by omega)
/-- A value says what its kids say. -/
theorem valL_body {ns : List Nd} {m : Nat} (hm : m < ns.length) (hd : deepOf ns (m : Int) ≠ 0) {k : Nat} (hk : k ≤ m) (hv : isVal (ns.getD k nd0).kind = true) : valL ns (k : Int) = valBody ns (valL ns) (ns.getD k nd0) := by
  have hok := deep_nodes hm hd k hk
  unfold valL
  simp only [valF, Int.toNat_natCast]
  refine valBody_congr (valKids hok hv) (fun c hc => ?_)
  have hb := ahead_of hm hd k hk c hc
  have hvc := kid_val hok hv c hc
  obtain ⟨n, rfl⟩ : ∃ n : Nat, c = (n : Int) := ⟨c.toNat, by omega⟩
  rw [Int.toNat_natCast] at hvc
  exact valF_eq hm hd n (by omega) hvc k ((n : Int).toNat + 1) (by omega) (by rw [Int.toNat_natCast]; omega)

theorem mxTo_ge (ds kids : List Int) : ∀ n j, j < n → ds.getD (kids.getD j 0).toNat 0 ≤ mxTo ds kids n := by
  intro n
  induction n with
  | zero => intro j h; omega
  | succ n ih =>
    intro j hj
    simp only [mxTo]
    rcases Nat.lt_or_ge j n with h1 | h1
    · have := ih j h1
      omega
    · have : j = n := by omega
      subst this
      omega
/-- A node is deeper than its kids. -/
theorem deep_kid {ns : List Nd} {m : Nat} (hm : m < ns.length) (hd : deepOf ns (m : Int) ≠ 0) {k : Nat} (hk : k ≤ m) {c : Int} (hc : c ∈ (ns.getD k nd0).kids) : 0 < deepOf ns c ∧ deepOf ns c < deepOf ns (k : Int) ∧ deepOf ns (k : Int) ≤ 10 := by
  have hb := ahead_of hm hd k hk c hc
  obtain ⟨n, rfl⟩ : ∃ n : Nat, c = (n : Int) := ⟨c.toNat, by omega⟩
  have hnk : n < k := by omega
  have hkl : k < ns.length := by omega
  have hne : ∀ t, t ≤ m → deepNext ns (deeps ns t) t ≠ 0 := fun t ht h0 => hd (deepOf_zero hm ht h0)
  rw [deepOf_in hkl, deepOf_in (by omega), deeps_last, deeps_last]
  have e1 : deepNext ns (deeps ns n) n = (deeps ns k).getD n 0 := by rw [← deeps_last, deeps_pre ns (i := n) (n := n + 1) (m := k) (by omega) (by omega)]
  have hn0 := hne n (by omega)
  have hnn := (deeps_bound ns k n).1
  have hk0 := hne k hk
  rw [e1] at hn0 ⊢
  obtain ⟨j, hj, hjc⟩ := List.getElem_of_mem hc
  have hg := mxTo_ge (deeps ns k) (ns.getD k nd0).kids (ns.getD k nd0).kids.length j hj
  rw [(getD_at hj).trans hjc, Int.toNat_natCast] at hg
  unfold deepNext at hk0 ⊢
  split at hk0
  · rw [if_pos (by assumption)]
    split at hk0
    · exact absurd rfl hk0
    · rw [if_neg (by assumption)]
      omega
  · exact absurd rfl hk0
theorem argTo_len {g : Int → List UInt8} {cs : List Int} {b : Nat} (H : ∀ c ∈ cs, (g c).length ≤ b) : ∀ n, n ≤ cs.length → (argTo g cs n).length ≤ n * (b + 2) := by
  intro n
  induction n with
  | zero => intro _; simp [argTo]
  | succ n ih =>
    intro hn
    have h1 := ih (by omega)
    have h2 := H _ (getD_mem (cs := cs) (n := n) (by omega))
    simp only [argTo, List.length_append]
    have h3 : (if n = 0 then ([] : List UInt8) else [44, 32]).length ≤ 2 := by split <;> simp
    rw [Nat.add_mul]
    omega
theorem parL_len (ns : List Nd) (g : Int → List UInt8) (c : Int) : (parL ns g c).length ≤ (g c).length + 2 := by
  unfold parL
  split
  · simp
  · omega
theorem sgnL_len (k : Int) : (sgnL k).length ≤ 4 := by
  unfold sgnL
  split
  · simp
  · split <;> simp
theorem name_len (x : Nd) : x.name.data.toList.length = x.name.size := by rw [Array.length_toList]; rfl
theorem valBody_len {ns : List Nd} {g : Int → List UInt8} {x : Nd} {b : Nat} (hx : ValKids x) (hb : 20 ≤ b) (H : ∀ c ∈ x.kids, (g c).length ≤ b) : (valBody ns g x).length ≤ 4 * b := by
  have hn := hx.name
  rw [← name_len] at hn
  have hi := Lib.itoa_length_le x.num (by have := hx.num; omega) (by have := hx.num; omega)
  have h0 : x.kind = 8 ∨ (9 ≤ x.kind ∧ x.kind ≤ 11) → (parL ns g (x.kids.getD 0 0)).length ≤ b + 2 := fun h => by
    have h1 := H _ (getD_mem (cs := x.kids) (n := 0) (by rcases h with h | h; · rw [hx.one h]; omega
                                                         · rw [hx.two h.1 h.2]; omega))
    have := parL_len ns g (x.kids.getD 0 0)
    omega
  have h2 : (9 ≤ x.kind ∧ x.kind ≤ 11) → (parL ns g (x.kids.getD 1 0)).length ≤ b + 2 := fun h => by
    have h1 := H _ (getD_mem (cs := x.kids) (n := 1) (by rw [hx.two h.1 h.2]; omega))
    have := parL_len ns g (x.kids.getD 1 0)
    omega
  have ha := argTo_len H _ (Nat.le_refl _)
  have hf := hx.few
  have hs := sgnL_len x.kind
  have hv := hx.val
  have ha3 : (argTo g x.kids x.kids.length).length ≤ 3 * (b + 2) := Nat.le_trans ha (Nat.mul_le_mul_right _ hf)
  unfold valBody
  repeat' split
  all_goals try simp only [List.length_append, List.length_cons, List.length_nil]
  all_goals first | omega | (have := h0 (.inl (by assumption)); omega) | (have := h0 (.inr (by omega)); have := h2 (by omega); omega)
theorem valL_len {ns : List Nd} {m : Nat} (hm : m < ns.length) (hd : deepOf ns (m : Int) ≠ 0) : ∀ k : Nat, k ≤ m → isVal (ns.getD k nd0).kind = true → (valL ns (k : Int)).length ≤ 20 * 4 ^ (deepOf ns (k : Int)).toNat := by
  intro k
  induction k using Nat.strongRecOn with
  | _ k ih =>
    intro hk hv
    have hok := deep_nodes hm hd k hk
    rw [valL_body hm hd hk hv]
    have hkp : 0 < deepOf ns (k : Int) := by
      have h1 : deepOf ns (k : Int) ≠ 0 := fun h0 => hd (by
        rw [deepOf_in (show k < ns.length by omega)] at h0
        rw [deepOf_in hm]
        exact deeps_zero ns h0 m hk)
      have h2 : 0 ≤ deepOf ns (k : Int) := by rw [deepOf_in (show k < ns.length by omega)]; exact (deeps_bound ns _ _).1
      omega
    obtain ⟨D, hD⟩ : ∃ D, (deepOf ns (k : Int)).toNat = D + 1 := ⟨(deepOf ns (k : Int)).toNat - 1, by omega⟩
    rw [hD, Nat.pow_succ, show 20 * (4 ^ D * 4) = 4 * (20 * 4 ^ D) by omega]
    refine valBody_len (valKids hok hv) (by have : 1 ≤ 4 ^ D := Nat.one_le_pow _ _ (by omega); omega) (fun c hc => ?_)
    have hb := ahead_of hm hd k hk c hc
    have hvc := kid_val hok hv c hc
    have hdk := deep_kid hm hd hk hc
    obtain ⟨n, rfl⟩ : ∃ n : Nat, c = (n : Int) := ⟨c.toNat, by omega⟩
    rw [Int.toNat_natCast] at hvc
    refine Nat.le_trans (ih n (by omega) (by omega) hvc) ?_
    exact Nat.mul_le_mul_left _ (Nat.pow_le_pow_right (by omega) (by omega))

end Go.Proofs.YtancoijbcobafaaGreatDoor
