/-
  Chapter 6, plainly: statements in words. No program, no world.
  Chapter 6, plainly: programs in words. No program, no world.
  Chapter 6, plainly: how long the texts of statements and programs are; blanks above twenty are twenty. No program, no world.
  ShowValue, in the program: values written by a line writer; where the powers of ten lie as the library's text lays them.
  ShowValue, in the program: a value that has a depth is written as the model says it.
  ShowProgram, in the program: lines, and statements of a block, written by a line writer.
  ShowProgram, in the program: a statement that has a depth is written as the model says it.
  ShowProgram, in the program: a function is written as the model says it; where the texts of types and the powers of ten lie as their texts lay them.
  ShowStep, in the model: statements in words.
  ShowStep, in the model: what it answers at every program, place and number of blanks.
-/
import Derived.Test.YtancoijbcobafaaGreatDoorPlain23
import Derived.Test.YtancoijbcobafaaGreatDoorLineW
import Derived.Test.YtancoijbcobafaaGreatDoorShowV
import Derived.Test.YtancoijbcobafaaGreatDoorLawDec
import Derived.Lib.Repeat
import Derived.Test.YtancoijbcobafaaGreatDoorRowFn
namespace Go.Proofs.YtancoijbcobafaaGreatDoor

/-- Two blanks, at most twenty times. -/
def inL (i : Int) : List UInt8 := List.replicate (2 * (min i.toNat 20)) 32
/-- One more, as a machine counts. -/
def inNext (i : Int) : Int := if i = 9223372036854775807 then -9223372036854775808 else i + 1
/-- The first n statements of a row. -/
def stepsTo (S : Int → Int → List UInt8) (cs : List Int) (i : Int) : Nat → List UInt8
  | 0 => []
  | n + 1 => stepsTo S cs i n ++ S (cs.getD n 0) i
def blkL (ns : List Nd) (S : Int → Int → List UInt8) (c i : Int) : List UInt8 := stepsTo S (ns.getD c.toNat nd0).kids i (ns.getD c.toNat nd0).kids.length
/-- A statement in words, what its kids say being given. -/
def stepBody (ns : List Nd) (S : Int → Int → List UInt8) (x : Nd) (i : Int) : List UInt8 :=
  if x.kind = 13 then inL i ++ [108, 101, 116, 32] ++ x.name.data.toList ++ [32, 61, 32] ++ valL ns (x.kids.getD 0 0) ++ [59, 10]
  else if x.kind = 14 then inL i ++ x.name.data.toList ++ [32, 61, 32] ++ valL ns (x.kids.getD 0 0) ++ [59, 10]
  else if x.kind = 15 then inL i ++ [42] ++ x.name.data.toList ++ [32, 61, 32] ++ valL ns (x.kids.getD 0 0) ++ [59, 10]
  else if x.kind = 18 then inL i ++ [112, 114, 105, 110, 116, 32] ++ valL ns (x.kids.getD 0 0) ++ [59, 10]
  else if x.kind = 19 then inL i ++ [100, 111, 32] ++ valL ns (x.kids.getD 0 0) ++ [59, 10]
  else if x.kind = 16 then inL i ++ [105, 102, 32] ++ valL ns (x.kids.getD 0 0) ++ [32, 123, 10] ++ blkL ns S (x.kids.getD 1 0) (inNext i) ++ inL i ++ [125, 32, 101, 108, 115, 101, 32, 123, 10] ++ blkL ns S (x.kids.getD 2 0) (inNext i) ++ inL i ++ [125, 10]
  else inL i ++ [119, 104, 105, 108, 101, 32] ++ valL ns (x.kids.getD 0 0) ++ [32, 123, 10] ++ blkL ns S (x.kids.getD 1 0) (inNext i) ++ inL i ++ [125, 10]
def stepF (ns : List Nd) : Nat → Int → Int → List UInt8
  | 0, _, _ => []
  | f + 1, k, i => stepBody ns (stepF ns f) (ns.getD k.toNat nd0) i
def stepL (ns : List Nd) (k i : Int) : List UInt8 := stepF ns (k.toNat + 1) k i

theorem stepsTo_congr {S S' : Int → Int → List UInt8} {cs : List Int} {i : Int} (H : ∀ c ∈ cs, S c i = S' c i) : ∀ n, n ≤ cs.length → stepsTo S cs i n = stepsTo S' cs i n := by
  intro n
  induction n with
  | zero => intro _; rfl
  | succ n ih =>
    intro hn
    simp only [stepsTo]
    rw [ih (by omega), H _ (getD_mem (cs := cs) (n := n) (by omega))]
/-- The kids of a statement. -/
structure StmKids (ns : List Nd) (x : Nd) : Prop where
  stm : 13 ≤ x.kind ∧ x.kind ≤ 19
  some : 0 < x.kids.length
  two : x.kind = 17 → x.kids.length = 2
  three : x.kind = 16 → x.kids.length = 3
  one : x.kind ≠ 16 → x.kind ≠ 17 → x.kids.length = 1
  val : isVal (ns.getD (x.kids.getD 0 0).toNat nd0).kind = true
  blk : ∀ j, 0 < j → j < x.kids.length → (ns.getD (x.kids.getD j 0).toNat nd0).kind = 20
  name : x.name.size ≤ 8
theorem stmKids {ns : List Nd} {k : Nat} (h : nodeOk ns (k : Int) = true) (hv : isStm (ns.getD k nd0).kind = true) : StmKids ns (ns.getD k nd0) := by
  unfold nodeOk at h
  simp only [Bool.and_eq_true, Int.toNat_natCast] at h
  have h2 := h.1.2
  have hkt := h.2
  unfold headOk at h2
  simp only [Bool.and_eq_true] at h2
  obtain ⟨⟨⟨⟨⟨a1, a2⟩, a3⟩, a4⟩, a5⟩, a6⟩ := h2
  generalize ns.getD k nd0 = x at hv a1 a2 a3 a4 a5 a6 hkt ⊢
  have hk : 13 ≤ x.kind ∧ x.kind ≤ 19 := by simpa [isStm, isIn] using hv
  have ha2 : kidsLow x.kind ≤ (x.kids.length : Int) ∧ (x.kids.length : Int) ≤ kidsHigh x.kind := by simpa [isIn] using a2
  have hcase : x.kind = 13 ∨ x.kind = 14 ∨ x.kind = 15 ∨ x.kind = 16 ∨ x.kind = 17 ∨ x.kind = 18 ∨ x.kind = 19 := by omega
  have hlen : (x.kind = 17 → x.kids.length = 2) ∧ (x.kind = 16 → x.kids.length = 3) ∧ (x.kind ≠ 16 → x.kind ≠ 17 → x.kids.length = 1) := by
    rcases hcase with e | e | e | e | e | e | e <;> (rw [e] at ha2; simp [kidsLow, kidsHigh] at ha2; refine ⟨fun _ => ?_, fun _ => ?_, fun _ _ => ?_⟩ <;> omega)
  have hsome : 0 < x.kids.length := by
    by_cases h16 : x.kind = 16
    · rw [hlen.2.1 h16]; omega
    · by_cases h17 : x.kind = 17
      · rw [hlen.1 h17]; omega
      · rw [hlen.2.2 h16 h17]; omega
  have hfit : ∀ j, j < x.kids.length → fits x.kind (j : Int) (ns.getD (x.kids.getD j 0).toNat nd0).kind = true := fun j hj => by
    have h1 := kidsTo_at hkt j hj
    unfold kidOk at h1
    simp only [Bool.and_eq_true] at h1
    exact h1.1.2
  refine ⟨hk, hsome, hlen.1, hlen.2.1, hlen.2.2, ?_, fun j h0 hj => ?_, ?_⟩
  · have h1 := hfit 0 hsome
    unfold fits at h1
    rw [if_neg (by omega), if_neg (by simp)] at h1
    split at h1
    · have : (ns.getD (x.kids.getD 0 0).toNat nd0).kind = 12 := by simpa using h1
      rw [this]
      rfl
    · exact h1
  · have h1 := hfit j hj
    have h16 : x.kind = 16 ∨ x.kind = 17 := by
      by_cases h16 : x.kind = 16
      · exact .inl h16
      · by_cases h17 : x.kind = 17
        · exact .inr h17
        · have := hlen.2.2 h16 h17
          omega
    unfold fits at h1
    rw [if_neg (by omega), if_pos ⟨h16, by omega⟩] at h1
    simpa using h1
  · rcases Bool.or_eq_true _ _ ▸ a6 with e | e
    · have : x.name.size = 0 := by simpa using e
      omega
    · unfold nameOk at e
      simp only [Bool.and_eq_true, decide_eq_true_eq] at e
      exact e.1.1.1.2
theorem stepBody_congr {ns : List Nd} {S S' : Int → Int → List UInt8} {x : Nd} {i : Int} (hx : StmKids ns x) (H : ∀ c ∈ x.kids, ∀ e ∈ (ns.getD c.toNat nd0).kids, ∀ i, S e i = S' e i) : stepBody ns S x i = stepBody ns S' x i := by
  have hb : ∀ j, j < x.kids.length → blkL ns S (x.kids.getD j 0) (inNext i) = blkL ns S' (x.kids.getD j 0) (inNext i) := fun j hj => stepsTo_congr (fun e he => H _ (getD_mem hj) e he _) _ (Nat.le_refl _)
  unfold stepBody
  by_cases h16 : x.kind = 16
  · rw [hb 1 (by rw [hx.three h16]; omega), hb 2 (by rw [hx.three h16]; omega)]
  · by_cases h17 : x.kind = 17
    · rw [hb 1 (by rw [hx.two h17]; omega), if_neg h16, if_neg h16]
    · have := hx.stm
      have hc : x.kind = 13 ∨ x.kind = 14 ∨ x.kind = 15 ∨ x.kind = 18 ∨ x.kind = 19 := by omega
      rcases hc with e | e | e | e | e <;> simp [e]
/-- The kids of a block are statements. -/
theorem blk_kids {ns : List Nd} {k : Nat} (h : nodeOk ns (k : Int) = true) (hv : (ns.getD k nd0).kind = 20) : (ns.getD k nd0).kids.length ≤ 12 ∧ ∀ c ∈ (ns.getD k nd0).kids, isStm (ns.getD c.toNat nd0).kind = true := by
  unfold nodeOk at h
  simp only [Bool.and_eq_true, Int.toNat_natCast] at h
  constructor
  · have h2 := h.1.2
    unfold headOk at h2
    simp only [Bool.and_eq_true] at h2
    have ha2 := h2.1.1.1.1.2
    rw [hv] at ha2
    have : ((ns.getD k nd0).kids.length : Int) ≤ 12 := by simpa [isIn, kidsLow, kidsHigh] using ha2
    omega
  · intro c hc
    obtain ⟨j, hj, hjc⟩ := List.getElem_of_mem hc
    have h1 := kidsTo_at h.2 j hj
    unfold kidOk at h1
    simp only [Bool.and_eq_true] at h1
    have h2 := h1.1.2
    rw [(getD_at hj).trans hjc] at h2
    unfold fits at h2
    rw [if_pos hv] at h2
    exact h2
/-- What lies two below a statement: a statement again, ahead of it. -/
theorem two_below {ns : List Nd} {m : Nat} (hm : m < ns.length) (hd : deepOf ns (m : Int) ≠ 0) {k : Nat} (hk : k ≤ m) {j : Nat} (h0 : 0 < j) (hs : isStm (ns.getD k nd0).kind = true) (hj : j < (ns.getD k nd0).kids.length) :
    ∃ b : Nat, (ns.getD k nd0).kids.getD j 0 = (b : Int) ∧ b < k ∧ (ns.getD b nd0).kind = 20 ∧ (ns.getD b nd0).kids.length ≤ 12 ∧ ∀ e ∈ (ns.getD b nd0).kids, ∃ n : Nat, e = (n : Int) ∧ n < b ∧ isStm (ns.getD n nd0).kind = true ∧ 0 < deepOf ns (n : Int) ∧ deepOf ns (n : Int) + 2 ≤ deepOf ns (k : Int) := by
  have hok := deep_nodes hm hd k hk
  have hx := stmKids hok hs
  have hc := getD_mem hj
  have hb := ahead_of hm hd k hk _ hc
  have hd1 := deep_kid hm hd hk hc
  obtain ⟨b, hbe⟩ : ∃ b : Nat, (ns.getD k nd0).kids.getD j 0 = (b : Int) := ⟨((ns.getD k nd0).kids.getD j 0).toNat, by omega⟩
  have h20 := hx.blk j h0 hj
  rw [hbe, Int.toNat_natCast] at h20
  rw [hbe] at hb hd1
  have hbm : b ≤ m := by omega
  have hkb := blk_kids (deep_nodes hm hd b hbm) h20
  refine ⟨b, hbe, by omega, h20, hkb.1, fun e he => ?_⟩
  have hb2 := ahead_of hm hd b hbm e he
  have hd2 := deep_kid hm hd hbm he
  have hs2 := hkb.2 e he
  obtain ⟨n, rfl⟩ : ∃ n : Nat, e = (n : Int) := ⟨e.toNat, by omega⟩
  rw [Int.toNat_natCast] at hs2
  exact ⟨n, rfl, by omega, hs2, hd2.1, by omega⟩

/-- A value that is let, told or asked for. -/
theorem step_val {ns : List Nd} {m : Nat} (hm : m < ns.length) (hd : deepOf ns (m : Int) ≠ 0) {k : Nat} (hk : k ≤ m) (hs : isStm (ns.getD k nd0).kind = true) : ∃ n : Nat, (ns.getD k nd0).kids.getD 0 0 = (n : Int) ∧ n < k ∧ isVal (ns.getD n nd0).kind = true ∧ (valL ns (n : Int)).length ≤ 30000000 := by
  have hok := deep_nodes hm hd k hk
  have hx := stmKids hok hs
  have hc := getD_mem hx.some
  have hb := ahead_of hm hd k hk _ hc
  have hdk := deep_kid hm hd hk hc
  have hv := hx.val
  obtain ⟨n, hn⟩ : ∃ n : Nat, (ns.getD k nd0).kids.getD 0 0 = (n : Int) := ⟨((ns.getD k nd0).kids.getD 0 0).toNat, by omega⟩
  rw [hn] at hb hdk
  rw [hn, Int.toNat_natCast] at hv
  refine ⟨n, hn, by omega, hv, Nat.le_trans (valL_len hm hd n (by omega) hv) ?_⟩
  have h1 : 4 ^ (deepOf ns (n : Int)).toNat ≤ 4 ^ 10 := Nat.pow_le_pow_right (by omega) (by omega)
  have h2 : (4 : Nat) ^ 10 = 1048576 := by decide
  omega
/-- Only what stands two below in a block is looked at: more fuel says no more. -/
theorem stepF_eq {ns : List Nd} {m : Nat} (hm : m < ns.length) (hd : deepOf ns (m : Int) ≠ 0) : ∀ k : Nat, k ≤ m → isStm (ns.getD k nd0).kind = true → ∀ f g, k < f → k < g → ∀ i, stepF ns f (k : Int) i = stepF ns g (k : Int) i := by
  intro k
  induction k using Nat.strongRecOn with
  | _ k ih =>
    intro hk hs f g hf hg i
    obtain ⟨f, rfl⟩ : ∃ f', f = f' + 1 := ⟨f - 1, by omega⟩
    obtain ⟨g, rfl⟩ : ∃ g', g = g' + 1 := ⟨g - 1, by omega⟩
    have hx := stmKids (deep_nodes hm hd k hk) hs
    have hb : ∀ j, 0 < j → j < (ns.getD k nd0).kids.length → blkL ns (stepF ns f) ((ns.getD k nd0).kids.getD j 0) (inNext i) = blkL ns (stepF ns g) ((ns.getD k nd0).kids.getD j 0) (inNext i) := fun j h0 hj => by
      obtain ⟨b, hbe, hbk, _, _, hbe2⟩ := two_below hm hd hk h0 hs hj
      unfold blkL
      rw [hbe, Int.toNat_natCast]
      refine stepsTo_congr (fun e he => ?_) _ (Nat.le_refl _)
      obtain ⟨n, rfl, hn, hsn, _⟩ := hbe2 e he
      exact ih n (by omega) (by omega) hsn f g (by omega) (by omega) _
    simp only [stepF, Int.toNat_natCast]
    unfold stepBody
    by_cases h16 : (ns.getD k nd0).kind = 16
    · rw [hb 1 (by omega) (by rw [hx.three h16]; omega), hb 2 (by omega) (by rw [hx.three h16]; omega)]
    · by_cases h17 : (ns.getD k nd0).kind = 17
      · rw [hb 1 (by omega) (by rw [hx.two h17]; omega), if_neg h16, if_neg h16]
      · have := hx.stm
        have hc : (ns.getD k nd0).kind = 13 ∨ (ns.getD k nd0).kind = 14 ∨ (ns.getD k nd0).kind = 15 ∨ (ns.getD k nd0).kind = 18 ∨ (ns.getD k nd0).kind = 19 := by omega
        rcases hc with e | e | e | e | e <;> rw [e] <;> rfl
theorem stepL_body {ns : List Nd} {m : Nat} (hm : m < ns.length) (hd : deepOf ns (m : Int) ≠ 0) {k : Nat} (hk : k ≤ m) (hs : isStm (ns.getD k nd0).kind = true) (i : Int) : stepL ns (k : Int) i = stepBody ns (stepL ns) (ns.getD k nd0) i := by
  have hx := stmKids (deep_nodes hm hd k hk) hs
  have hb : ∀ j, 0 < j → j < (ns.getD k nd0).kids.length → blkL ns (stepF ns k) ((ns.getD k nd0).kids.getD j 0) (inNext i) = blkL ns (stepL ns) ((ns.getD k nd0).kids.getD j 0) (inNext i) := fun j h0 hj => by
    obtain ⟨b, hbe, hbk, _, _, hbe2⟩ := two_below hm hd hk h0 hs hj
    unfold blkL
    rw [hbe, Int.toNat_natCast]
    refine stepsTo_congr (fun e he => ?_) _ (Nat.le_refl _)
    obtain ⟨n, rfl, hn, hsn, _⟩ := hbe2 e he
    exact stepF_eq hm hd n (by omega) hsn k ((n : Int).toNat + 1) (by omega) (by rw [Int.toNat_natCast]; omega) _
  show stepF ns ((k : Int).toNat + 1) (k : Int) i = _
  simp only [stepF, Int.toNat_natCast]
  unfold stepBody
  by_cases h16 : (ns.getD k nd0).kind = 16
  · rw [hb 1 (by omega) (by rw [hx.three h16]; omega), hb 2 (by omega) (by rw [hx.three h16]; omega)]
  · by_cases h17 : (ns.getD k nd0).kind = 17
    · rw [hb 1 (by omega) (by rw [hx.two h17]; omega), if_neg h16, if_neg h16]
    · have := hx.stm
      have hc : (ns.getD k nd0).kind = 13 ∨ (ns.getD k nd0).kind = 14 ∨ (ns.getD k nd0).kind = 15 ∨ (ns.getD k nd0).kind = 18 ∨ (ns.getD k nd0).kind = 19 := by omega
      rcases hc with e | e | e | e | e <;> rw [e] <;> rfl
theorem inL_len (i : Int) : (inL i).length ≤ 40 := by
  unfold inL
  rw [List.length_replicate]
  omega
theorem stepsTo_len {S : Int → Int → List UInt8} {cs : List Int} {i : Int} {b : Nat} (H : ∀ c ∈ cs, (S c i).length ≤ b) : ∀ n, n ≤ cs.length → (stepsTo S cs i n).length ≤ n * b := by
  intro n
  induction n with
  | zero => intro _; simp [stepsTo]
  | succ n ih =>
    intro hn
    have h1 := ih (by omega)
    have h2 := H _ (getD_mem (cs := cs) (n := n) (by omega))
    simp only [stepsTo, List.length_append]
    rw [Nat.add_mul, Nat.one_mul]
    omega
theorem stepL_len {ns : List Nd} {m : Nat} (hm : m < ns.length) (hd : deepOf ns (m : Int) ≠ 0) : ∀ k : Nat, k ≤ m → isStm (ns.getD k nd0).kind = true → ∀ i, (stepL ns (k : Int) i).length ≤ 40000000 * 30 ^ ((deepOf ns (k : Int)).toNat / 2) := by
  intro k
  induction k using Nat.strongRecOn with
  | _ k ih =>
    intro hk hs i
    have hx := stmKids (deep_nodes hm hd k hk) hs
    rw [stepL_body hm hd hk hs]
    obtain ⟨n, hn, hnk, hnv, hnl⟩ := step_val hm hd hk hs
    have hdk := (deep_kid hm hd hk (getD_mem hx.some)).2.1
    have hd0 := (deep_kid hm hd hk (getD_mem hx.some)).1
    obtain ⟨D, hD⟩ : ∃ D, (deepOf ns (k : Int)).toNat / 2 = D + 1 := ⟨(deepOf ns (k : Int)).toNat / 2 - 1, by omega⟩
    rw [hD]
    have hpow : 40000000 * 30 ^ (D + 1) = 30 * (40000000 * 30 ^ D) := by rw [Nat.pow_succ]; omega
    have hp1 : 1 ≤ 30 ^ D := Nat.one_le_pow _ _ (by omega)
    rw [hpow]
    generalize hB : 40000000 * 30 ^ D = B
    have hB1 : 40000000 ≤ B := by omega
    have hbl : ∀ j, 0 < j → j < (ns.getD k nd0).kids.length → (blkL ns (stepL ns) ((ns.getD k nd0).kids.getD j 0) (inNext i)).length ≤ 12 * B := fun j h0 hj => by
      obtain ⟨b, hbe, hbk, _, h12, hbe2⟩ := two_below hm hd hk h0 hs hj
      unfold blkL
      rw [hbe, Int.toNat_natCast]
      refine Nat.le_trans (stepsTo_len (b := B) (fun e he => ?_) _ (Nat.le_refl _)) (Nat.mul_le_mul_right _ h12)
      obtain ⟨n, rfl, hn, hsn, hp, hq⟩ := hbe2 e he
      refine Nat.le_trans (ih n (by omega) (by omega) hsn _) ?_
      rw [← hB]
      exact Nat.mul_le_mul_left _ (Nat.pow_le_pow_right (by omega) (by omega))
    have hi := inL_len i
    have hnm := hx.name
    rw [← name_len] at hnm
    rw [← hn] at hnl
    have hst := hx.stm
    unfold stepBody
    by_cases h16 : (ns.getD k nd0).kind = 16
    · have b1 := hbl 1 (by omega) (by rw [hx.three h16]; omega)
      have b2 := hbl 2 (by omega) (by rw [hx.three h16]; omega)
      rw [if_neg (by omega), if_neg (by omega), if_neg (by omega), if_neg (by omega), if_neg (by omega), if_pos h16]
      simp only [List.length_append, List.length_cons, List.length_nil]
      omega
    · by_cases h17 : (ns.getD k nd0).kind = 17
      · have b1 := hbl 1 (by omega) (by rw [hx.two h17]; omega)
        rw [if_neg (by omega), if_neg (by omega), if_neg (by omega), if_neg (by omega), if_neg (by omega), if_neg h16]
        simp only [List.length_append, List.length_cons, List.length_nil]
        omega
      · have hc : (ns.getD k nd0).kind = 13 ∨ (ns.getD k nd0).kind = 14 ∨ (ns.getD k nd0).kind = 15 ∨ (ns.getD k nd0).kind = 18 ∨ (ns.getD k nd0).kind = 19 := by omega
        rcases hc with e | e | e | e | e
        · rw [if_pos e]
          simp only [List.length_append, List.length_cons, List.length_nil]
          omega
        · rw [if_neg (by omega), if_pos e]
          simp only [List.length_append, List.length_cons, List.length_nil]
          omega
        · rw [if_neg (by omega), if_neg (by omega), if_pos e]
          simp only [List.length_append, List.length_cons, List.length_nil]
          omega
        · rw [if_neg (by omega), if_neg (by omega), if_neg (by omega), if_pos e]
          simp only [List.length_append, List.length_cons, List.length_nil]
          omega
        · rw [if_neg (by omega), if_neg (by omega), if_neg (by omega), if_neg (by omega), if_pos e]
          simp only [List.length_append, List.length_cons, List.length_nil]
          omega

/-- A number that no text of a tree reaches. -/
theorem stepL_small {ns : List Nd} {m : Nat} (hm : m < ns.length) (hd : deepOf ns (m : Int) ≠ 0) (k : Nat) (hk : k ≤ m) (hs : isStm (ns.getD k nd0).kind = true) (i : Int) : (stepL ns (k : Int) i).length ≤ 1000000000000000 := by
  refine Nat.le_trans (stepL_len hm hd k hk hs i) ?_
  have hx := stmKids (deep_nodes hm hd k hk) hs
  have h10 := (deep_kid hm hd hk (getD_mem hx.some)).2.2
  have h1 : 30 ^ ((deepOf ns (k : Int)).toNat / 2) ≤ 30 ^ 5 := Nat.pow_le_pow_right (by omega) (by omega)
  have h2 : (30 : Nat) ^ 5 = 24300000 := by decide
  omega

end Go.Proofs.YtancoijbcobafaaGreatDoor

namespace Go.Proofs.YtancoijbcobafaaGreatDoor

def pm0 : Pm := ⟨ByteArray.empty, 0⟩
def fc0 : Fc := ⟨ByteArray.empty, [], 0, 0, 0⟩
def tyL (t : Int) : List UInt8 := if t = 1 then [105, 110, 116] else if t = 2 then [98, 111, 120] else if t = 3 then [38, 98, 111, 120] else [38, 109, 117, 116, 32, 98, 111, 120]
/-- The first n params, with a comma between. -/
def parTo (ps : List Pm) : Nat → List UInt8
  | 0 => []
  | n + 1 => parTo ps n ++ (if n = 0 then [] else [44, 32]) ++ (ps.getD n pm0).name.data.toList ++ [58, 32] ++ tyL (ps.getD n pm0).ty
def resL (f : Fc) : List UInt8 := if f.res = 0 then [] else [32, 45, 62, 32] ++ tyL f.res
def retL (ns : List Nd) (f : Fc) : List UInt8 := if 0 ≤ f.ret then [32, 32, 114, 101, 116, 32] ++ valL ns f.ret ++ [59, 10] else []
def fnT (ns : List Nd) (f : Fc) : List UInt8 := [102, 110, 32] ++ f.name.data.toList ++ [40] ++ parTo f.params f.params.length ++ [41] ++ resL f ++ [32, 123, 10] ++ blkL ns (stepL ns) f.body 1 ++ retL ns f ++ [125, 10]
/-- The first n functions. -/
def prgTo (p : Pg) : Nat → List UInt8
  | 0 => []
  | n + 1 => prgTo p n ++ fnT p.nodes (p.fns.getD n fc0)
/-- What ShowProgram answers. -/
def showPrg (p : Pg) : List UInt8 × Bool := if programOk p = true then (if 3000 < (prgTo p p.fns.length).length then ([], false) else (prgTo p p.fns.length, true)) else ([], false)

/-- What is known of a function of a right program. -/
structure FnFacts (ns : List Nd) (f : Fc) : Prop where
  name : f.name.size ≤ 8
  few : f.params.length ≤ 3
  pars : ∀ p ∈ f.params, p.name.size ≤ 8
  body : 0 ≤ f.body ∧ f.body < (ns.length : Int) ∧ (ns.getD f.body.toNat nd0).kind = 20
  none : f.res = 0 → f.ret = -1
  some : f.res ≠ 0 → 0 ≤ f.ret ∧ f.ret < (ns.length : Int) ∧ isVal (ns.getD f.ret.toNat nd0).kind = true
theorem name8 {s : ByteArray} (h : nameOk s = true) : s.size ≤ 8 := by
  unfold nameOk at h
  simp only [Bool.and_eq_true, decide_eq_true_eq] at h
  exact h.1.1.1.2
theorem fn_facts {p : Pg} (h : programOk p = true) {i : Nat} (hi : i < p.fns.length) : FnFacts p.nodes (p.fns.getD i fc0) := by
  unfold programOk at h
  simp only [Bool.and_eq_true] at h
  have h1 := fnsTo_at h.1.2 i hi
  show FnFacts p.nodes (p.fns.getD i ⟨ByteArray.empty, [], 0, 0, 0⟩)
  generalize p.fns.getD i ⟨ByteArray.empty, [], 0, 0, 0⟩ = f at h1 ⊢
  unfold fnOk endsOkB at h1
  simp only [Bool.and_eq_true, decide_eq_true_eq] at h1
  obtain ⟨⟨⟨a1, _⟩, a3, a4⟩, ⟨a5, a6⟩, a7⟩ := h1
  have hb : 0 ≤ f.body ∧ f.body ≤ (p.nodes.length : Int) - 1 := by simpa [isIn] using a5
  refine ⟨name8 a1, a3, fun q hq => ?_, ⟨hb.1, by omega, a6⟩, fun e => ?_, fun e => ?_⟩
  · have := List.all_eq_true.mp a4 q hq
    unfold pmOk at this
    simp only [Bool.and_eq_true] at this
    exact name8 this.1
  · rw [if_pos e] at a7
    simpa using a7
  · rw [if_neg e] at a7
    split at a7
    · simp only [Bool.and_eq_true] at a7
      have hr : 0 ≤ f.ret ∧ f.ret ≤ (p.nodes.length : Int) - 1 := by simpa [isIn] using a7.1
      exact ⟨hr.1, by omega, a7.2⟩
    · cases a7
theorem prog_deep {p : Pg} (h : programOk p = true) : 1 ≤ p.nodes.length ∧ p.fns.length ≤ 8 ∧ deepOf p.nodes ((p.nodes.length - 1 : Nat) : Int) ≠ 0 := by
  unfold programOk at h
  simp only [Bool.and_eq_true, decide_eq_true_eq] at h
  have h1 : 1 ≤ (p.nodes.length : Int) ∧ (p.nodes.length : Int) ≤ 300 := by simpa [isIn] using h.1.1.1.1
  have h2 : 1 ≤ (p.fns.length : Int) ∧ (p.fns.length : Int) ≤ 8 := by simpa [isIn] using h.1.1.1.2
  refine ⟨by omega, by omega, ?_⟩
  have h3 := h.1.1.2
  rwa [show ((p.nodes.length - 1 : Nat) : Int) = (p.nodes.length : Int) - 1 by omega]
theorem tyL_len (t : Int) : (tyL t).length ≤ 8 := by
  unfold tyL
  split
  · simp
  · split
    · simp
    · split <;> simp
theorem pm_getD {ps : List Pm} {n : Nat} (h : n < ps.length) : ps.getD n pm0 = ps[n] := by simp [List.getD, h]
theorem parTo_len {ps : List Pm} (H : ∀ p ∈ ps, p.name.size ≤ 8) : ∀ n, n ≤ ps.length → (parTo ps n).length ≤ n * 20 := by
  intro n
  induction n with
  | zero => intro _; simp [parTo]
  | succ n ih =>
    intro hn
    have h1 := ih (by omega)
    have hm : n < ps.length := by omega
    have h2 := H _ (List.getElem_mem hm)
    have h3 : (if n = 0 then ([] : List UInt8) else [44, 32]).length ≤ 2 := by split <;> simp
    have h4 := tyL_len (ps[n]).ty
    have h5 : ps[n].name.data.toList.length = ps[n].name.size := by rw [Array.length_toList]; rfl
    simp only [parTo, List.length_append, pm_getD hm, List.length_cons, List.length_nil]
    rw [Nat.add_mul]
    omega
/-- The statements of a function's block. -/
theorem body_kids {ns : List Nd} {m : Nat} (hm : m < ns.length) (hd : deepOf ns (m : Int) ≠ 0) {b : Nat} (hb : b ≤ m) (h20 : (ns.getD b nd0).kind = 20) : (ns.getD b nd0).kids.length ≤ 12 ∧ ∀ e ∈ (ns.getD b nd0).kids, ∃ n : Nat, e = (n : Int) ∧ n < b ∧ isStm (ns.getD n nd0).kind = true := by
  have hkb := blk_kids (deep_nodes hm hd b hb) h20
  refine ⟨hkb.1, fun e he => ?_⟩
  have hb2 := ahead_of hm hd b hb e he
  have hs2 := hkb.2 e he
  obtain ⟨n, rfl⟩ : ∃ n : Nat, e = (n : Int) := ⟨e.toNat, by omega⟩
  rw [Int.toNat_natCast] at hs2
  exact ⟨n, rfl, by omega, hs2⟩
theorem body_len {ns : List Nd} {m : Nat} (hm : m < ns.length) (hd : deepOf ns (m : Int) ≠ 0) {b : Nat} (hb : b ≤ m) (h20 : (ns.getD b nd0).kind = 20) (i : Int) : (blkL ns (stepL ns) (b : Int) i).length ≤ 12000000000000000 := by
  obtain ⟨h12, hk⟩ := body_kids hm hd hb h20
  unfold blkL
  rw [Int.toNat_natCast]
  refine Nat.le_trans (stepsTo_len (b := 1000000000000000) (fun e he => ?_) _ (Nat.le_refl _)) (Nat.mul_le_mul_right 1000000000000000 h12)
  obtain ⟨n, rfl, hn, hs⟩ := hk e he
  exact stepL_small hm hd n (by omega) hs i
theorem val_len {ns : List Nd} {m : Nat} (hm : m < ns.length) (hd : deepOf ns (m : Int) ≠ 0) {n : Nat} (hn : n ≤ m) (hv : isVal (ns.getD n nd0).kind = true) : (valL ns (n : Int)).length ≤ 30000000 := by
  refine Nat.le_trans (valL_len hm hd n hn hv) ?_
  have h10 : deepOf ns (n : Int) ≤ 10 := by rw [deepOf_in (show n < ns.length by omega)]; exact (deeps_bound ns _ _).2
  have h1 : 4 ^ (deepOf ns (n : Int)).toNat ≤ 4 ^ 10 := Nat.pow_le_pow_right (by omega) (by omega)
  have h2 : (4 : Nat) ^ 10 = 1048576 := by decide
  omega
theorem fnT_len {p : Pg} (h : programOk p = true) {i : Nat} (hi : i < p.fns.length) : (fnT p.nodes (p.fns.getD i fc0)).length ≤ 13000000000000000 := by
  have hf := fn_facts h hi
  obtain ⟨hN, _, hd⟩ := prog_deep h
  generalize p.fns.getD i fc0 = f at hf ⊢
  have hm : p.nodes.length - 1 < p.nodes.length := by omega
  have h1 := parTo_len hf.pars _ (Nat.le_refl _)
  have h2 := hf.few
  have h3 : f.params.length * 20 ≤ 3 * 20 := Nat.mul_le_mul_right _ h2
  have hb := hf.body
  obtain ⟨b, hbe⟩ : ∃ b : Nat, f.body = (b : Int) := ⟨f.body.toNat, by omega⟩
  have h4 := body_len hm hd (b := b) (by omega) (by rw [hbe, Int.toNat_natCast] at hb; exact hb.2.2) 1
  have h5 : (resL f).length ≤ 12 := by
    unfold resL
    split
    · simp
    · have := tyL_len f.res
      simp only [List.length_append, List.length_cons, List.length_nil]
      omega
  have h6 : (retL p.nodes f).length ≤ 30000008 := by
    unfold retL
    split
    · rename_i hr
      by_cases hz : f.res = 0
      · have := hf.none hz
        omega
      · have hs := hf.some hz
        obtain ⟨n, hn⟩ : ∃ n : Nat, f.ret = (n : Int) := ⟨f.ret.toNat, by omega⟩
        rw [hn, Int.toNat_natCast] at hs
        have := val_len hm hd (n := n) (by omega) hs.2.2
        rw [hn]
        simp only [List.length_append, List.length_cons, List.length_nil]
        omega
    · simp
  have h7 : f.name.data.toList.length ≤ 8 := by rw [Array.length_toList]; exact hf.name
  unfold fnT
  rw [hbe]
  simp only [List.length_append, List.length_cons, List.length_nil]
  omega
theorem prgTo_len {p : Pg} (h : programOk p = true) : ∀ n, n ≤ p.fns.length → (prgTo p n).length ≤ n * 13000000000000000 := by
  intro n
  induction n with
  | zero => intro _; simp [prgTo]
  | succ n ih =>
    intro hn
    have h1 := ih (by omega)
    have h2 := fnT_len h (show n < p.fns.length by omega)
    simp only [prgTo, List.length_append]
    rw [Nat.add_mul]
    omega

end Go.Proofs.YtancoijbcobafaaGreatDoor

namespace Go.Proofs.YtancoijbcobafaaGreatDoor

theorem stepL_len6 {ns : List Nd} {m : Nat} (hm : m < ns.length) (hd : deepOf ns (m : Int) ≠ 0) : ∀ k : Nat, k ≤ m → isStm (ns.getD k nd0).kind = true → ∀ i, (stepL ns (k : Int) i).length ≤ 100 * 6 ^ (deepOf ns (k : Int)).toNat := by
  intro k
  induction k using Nat.strongRecOn with
  | _ k ih =>
    intro hk hs i
    have hx := stmKids (deep_nodes hm hd k hk) hs
    rw [stepL_body hm hd hk hs]
    obtain ⟨n, hn, hnk, hnv, _⟩ := step_val hm hd hk hs
    have hdk := deep_kid hm hd hk (getD_mem hx.some)
    rw [hn] at hdk
    have hnl := valL_len hm hd n (by omega) hnv
    obtain ⟨D, hD⟩ : ∃ D, (deepOf ns (k : Int)).toNat = D + 2 := ⟨(deepOf ns (k : Int)).toNat - 2, by omega⟩
    have hv6 : (valL ns (n : Int)).length ≤ 120 * 6 ^ D := by
      have h1 : 4 ^ (deepOf ns (n : Int)).toNat ≤ 6 ^ (deepOf ns (n : Int)).toNat := Nat.pow_le_pow_left (by omega) _
      have h2 : 6 ^ (deepOf ns (n : Int)).toNat ≤ 6 ^ (D + 1) := Nat.pow_le_pow_right (by omega) (by omega)
      rw [Nat.pow_succ] at h2
      omega
    rw [hD, show 100 * 6 ^ (D + 2) = 3600 * 6 ^ D by rw [Nat.pow_add]; omega]
    have hp1 : 1 ≤ 6 ^ D := Nat.one_le_pow _ _ (by omega)
    have hbl : ∀ j, 0 < j → j < (ns.getD k nd0).kids.length → (blkL ns (stepL ns) ((ns.getD k nd0).kids.getD j 0) (inNext i)).length ≤ 1200 * 6 ^ D := fun j h0 hj => by
      obtain ⟨b, hbe, hbk, _, h12, hbe2⟩ := two_below hm hd hk h0 hs hj
      unfold blkL
      rw [hbe, Int.toNat_natCast]
      have h1 := stepsTo_len (S := stepL ns) (cs := (ns.getD b nd0).kids) (i := inNext i) (b := 100 * 6 ^ D) (fun e he => by
        obtain ⟨n, rfl, hn, hsn, hp, hq⟩ := hbe2 e he
        refine Nat.le_trans (ih n (by omega) (by omega) hsn _) ?_
        exact Nat.mul_le_mul_left _ (Nat.pow_le_pow_right (by omega) (by omega))) _ (Nat.le_refl _)
      refine Nat.le_trans h1 ?_
      have h2 := Nat.mul_le_mul_right (100 * 6 ^ D) h12
      omega
    generalize 6 ^ D = x at hv6 hp1 hbl ⊢
    have hi := inL_len i
    have hnm := hx.name
    rw [← name_len] at hnm
    rw [← hn] at hv6
    have hst := hx.stm
    unfold stepBody
    by_cases h16 : (ns.getD k nd0).kind = 16
    · have b1 := hbl 1 (by omega) (by rw [hx.three h16]; omega)
      have b2 := hbl 2 (by omega) (by rw [hx.three h16]; omega)
      rw [if_neg (by omega), if_neg (by omega), if_neg (by omega), if_neg (by omega), if_neg (by omega), if_pos h16]
      simp only [List.length_append, List.length_cons, List.length_nil]
      omega
    · by_cases h17 : (ns.getD k nd0).kind = 17
      · have b1 := hbl 1 (by omega) (by rw [hx.two h17]; omega)
        rw [if_neg (by omega), if_neg (by omega), if_neg (by omega), if_neg (by omega), if_neg (by omega), if_neg h16]
        simp only [List.length_append, List.length_cons, List.length_nil]
        omega
      · have hc : (ns.getD k nd0).kind = 13 ∨ (ns.getD k nd0).kind = 14 ∨ (ns.getD k nd0).kind = 15 ∨ (ns.getD k nd0).kind = 18 ∨ (ns.getD k nd0).kind = 19 := by omega
        rcases hc with e | e | e | e | e
        · rw [if_pos e]
          simp only [List.length_append, List.length_cons, List.length_nil]
          omega
        · rw [if_neg (by omega), if_pos e]
          simp only [List.length_append, List.length_cons, List.length_nil]
          omega
        · rw [if_neg (by omega), if_neg (by omega), if_pos e]
          simp only [List.length_append, List.length_cons, List.length_nil]
          omega
        · rw [if_neg (by omega), if_neg (by omega), if_neg (by omega), if_pos e]
          simp only [List.length_append, List.length_cons, List.length_nil]
          omega
        · rw [if_neg (by omega), if_neg (by omega), if_neg (by omega), if_neg (by omega), if_pos e]
          simp only [List.length_append, List.length_cons, List.length_nil]
          omega
theorem body_len6 {ns : List Nd} {m : Nat} (hm : m < ns.length) (hd : deepOf ns (m : Int) ≠ 0) {b : Nat} (hb : b ≤ m) (h20 : (ns.getD b nd0).kind = 20) (i : Int) : (blkL ns (stepL ns) (b : Int) i).length ≤ 13000000000 := by
  have hkb := blk_kids (deep_nodes hm hd b hb) h20
  unfold blkL
  rw [Int.toNat_natCast]
  have h1 := stepsTo_len (S := stepL ns) (cs := (ns.getD b nd0).kids) (i := i) (b := 1007769600) (fun e he => by
    have hb2 := ahead_of hm hd b hb e he
    have hs2 := hkb.2 e he
    have hdk := deep_kid hm hd hb he
    obtain ⟨n, rfl⟩ : ∃ n : Nat, e = (n : Int) := ⟨e.toNat, by omega⟩
    rw [Int.toNat_natCast] at hs2
    refine Nat.le_trans (stepL_len6 hm hd n (by omega) hs2 i) ?_
    have h2 : 6 ^ (deepOf ns (n : Int)).toNat ≤ 6 ^ 9 := Nat.pow_le_pow_right (by omega) (by omega)
    have h3 : (6 : Nat) ^ 9 = 10077696 := by decide
    omega) _ (Nat.le_refl _)
  refine Nat.le_trans h1 ?_
  have h2 := Nat.mul_le_mul_right 1007769600 hkb.1
  omega
theorem fnT_len6 {p : Pg} (h : programOk p = true) {i : Nat} (hi : i < p.fns.length) : (fnT p.nodes (p.fns.getD i fc0)).length ≤ 14000000000 := by
  have hf := fn_facts h hi
  obtain ⟨hN, _, hd⟩ := prog_deep h
  generalize p.fns.getD i fc0 = f at hf ⊢
  have hm : p.nodes.length - 1 < p.nodes.length := by omega
  have h1 := parTo_len hf.pars _ (Nat.le_refl _)
  have h2 := hf.few
  have h3 : f.params.length * 20 ≤ 3 * 20 := Nat.mul_le_mul_right _ h2
  have hb := hf.body
  obtain ⟨b, hbe⟩ : ∃ b : Nat, f.body = (b : Int) := ⟨f.body.toNat, by omega⟩
  have h4 := body_len6 hm hd (b := b) (by omega) (by rw [hbe, Int.toNat_natCast] at hb; exact hb.2.2) 1
  have h5 : (resL f).length ≤ 12 := by
    unfold resL
    split
    · simp
    · have := tyL_len f.res
      simp only [List.length_append, List.length_cons, List.length_nil]
      omega
  have h6 : (retL p.nodes f).length ≤ 30000008 := by
    unfold retL
    split
    · rename_i hr
      by_cases hz : f.res = 0
      · have := hf.none hz
        omega
      · have hs := hf.some hz
        obtain ⟨n, hn⟩ : ∃ n : Nat, f.ret = (n : Int) := ⟨f.ret.toNat, by omega⟩
        rw [hn, Int.toNat_natCast] at hs
        have := val_len hm hd (n := n) (by omega) hs.2.2
        rw [hn]
        simp only [List.length_append, List.length_cons, List.length_nil]
        omega
    · simp
  have h7 : f.name.data.toList.length ≤ 8 := by rw [Array.length_toList]; exact hf.name
  unfold fnT
  rw [hbe]
  simp only [List.length_append, List.length_cons, List.length_nil]
  omega
theorem prgTo_len6 {p : Pg} (h : programOk p = true) : ∀ n, n ≤ p.fns.length → (prgTo p n).length ≤ 112000000000 := by
  have h8 := (prog_deep h).2.1
  have one : ∀ n, n ≤ p.fns.length → (prgTo p n).length ≤ n * 14000000000 := by
    intro n
    induction n with
    | zero => intro _; simp [prgTo]
    | succ n ih =>
      intro hn
      have h1 := ih (by omega)
      have h2 := fnT_len6 h (show n < p.fns.length by omega)
      simp only [prgTo, List.length_append]
      rw [Nat.add_mul]
      omega
  intro n hn
  have := one n hn
  have h2 := Nat.mul_le_mul_right 14000000000 (show n ≤ 8 by omega)
  omega

theorem inL_clamp {i j : Int} (h : min i.toNat 20 = min j.toNat 20) : inL i = inL j := by unfold inL; rw [h]
theorem stepsTo_at {S : Int → Int → List UInt8} {cs : List Int} {i j : Int} (H : ∀ c, S c i = S c j) : ∀ n, stepsTo S cs i n = stepsTo S cs j n := by
  intro n
  induction n with
  | zero => rfl
  | succ n ih => simp only [stepsTo]; rw [ih, H]
theorem stepF_clamp (ns : List Nd) : ∀ (f : Nat) (k i j : Int), 0 ≤ i → 0 ≤ j → i + (f : Int) < 9223372036854775807 → j + (f : Int) < 9223372036854775807 → min i.toNat 20 = min j.toNat 20 → stepF ns f k i = stepF ns f k j := by
  intro f
  induction f with
  | zero => intro k i j _ _ _ _ _; rfl
  | succ f ih =>
    intro k i j hi hj hi1 hj1 h
    have ei : inNext i = i + 1 := by unfold inNext; rw [if_neg (by omega)]
    have ej : inNext j = j + 1 := by unfold inNext; rw [if_neg (by omega)]
    have hb : ∀ c, blkL ns (stepF ns f) c (inNext i) = blkL ns (stepF ns f) c (inNext j) := fun c => by
      unfold blkL
      rw [ei, ej]
      exact stepsTo_at (fun e => ih e (i + 1) (j + 1) (by omega) (by omega) (by omega) (by omega) (by omega)) _
    simp only [stepF]
    unfold stepBody
    simp only [inL_clamp h, hb]
/-- A statement at more than twenty stands as at twenty. -/
theorem stepL_clamp (ns : List Nd) (k : Nat) (hk : k < 1000000000) {i j : Int} (hi : 0 ≤ i) (hj : 0 ≤ j) (hi1 : i ≤ 1000) (hj1 : j ≤ 1000) (h : min i.toNat 20 = min j.toNat 20) : stepL ns (k : Int) i = stepL ns (k : Int) j := by
  unfold stepL
  exact stepF_clamp ns _ _ i j hi hj (by omega) (by omega) h
theorem blkL_clamp {ns : List Nd} {m : Nat} (hm : m < ns.length) (hd : deepOf ns (m : Int) ≠ 0) (hN : ns.length < 1000000000) {b : Nat} (hb : b ≤ m) {i j : Int} (hi : 0 ≤ i) (hj : 0 ≤ j) (hi1 : i ≤ 1000) (hj1 : j ≤ 1000) (h : min i.toNat 20 = min j.toNat 20) : blkL ns (stepL ns) (b : Int) i = blkL ns (stepL ns) (b : Int) j := by
  unfold blkL
  rw [Int.toNat_natCast]
  have : ∀ n, n ≤ (ns.getD b nd0).kids.length → stepsTo (stepL ns) (ns.getD b nd0).kids i n = stepsTo (stepL ns) (ns.getD b nd0).kids j n := by
    intro n
    induction n with
    | zero => intro _; rfl
    | succ n ih =>
      intro hn
      have hc := getD_mem (cs := (ns.getD b nd0).kids) (n := n) (by omega)
      have hb2 := ahead_of hm hd b hb _ hc
      simp only [stepsTo]
      rw [ih (by omega)]
      obtain ⟨c, hce⟩ : ∃ c : Nat, (ns.getD b nd0).kids.getD n 0 = (c : Int) := ⟨((ns.getD b nd0).kids.getD n 0).toNat, by omega⟩
      rw [hce] at hb2 ⊢
      rw [stepL_clamp ns c (by omega) hi hj hi1 hj1 h]
  exact this _ (Nat.le_refl _)
theorem stepsTo_mono (S : Int → Int → List UInt8) (cs : List Int) (i : Int) (t K : Nat) (h : t ≤ K) : (stepsTo S cs i t).length ≤ (stepsTo S cs i K).length := by
  induction K with
  | zero =>
    have : t = 0 := by omega
    subst this
    omega
  | succ K ih =>
    rcases Nat.lt_or_ge t (K + 1) with h1 | h1
    · have := ih (by omega)
      simp only [stepsTo, List.length_append]
      omega
    · have : t = K + 1 := by omega
      subst this
      omega
theorem prgTo_mono (p : Pg) (t K : Nat) (h : t ≤ K) : (prgTo p t).length ≤ (prgTo p K).length := by
  induction K with
  | zero =>
    have : t = 0 := by omega
    subst this
    omega
  | succ K ih =>
    rcases Nat.lt_or_ge t (K + 1) with h1 | h1
    · have := ih (by omega)
      simp only [prgTo, List.length_append]
      omega
    · have : t = K + 1 := by omega
      subst this
      omega
theorem parTo_mono (ps : List Pm) (t K : Nat) (h : t ≤ K) : (parTo ps t).length ≤ (parTo ps K).length := by
  induction K with
  | zero =>
    have : t = 0 := by omega
    subst this
    omega
  | succ K ih =>
    rcases Nat.lt_or_ge t (K + 1) with h1 | h1
    · have := ih (by omega)
      simp only [parTo, List.length_append]
      omega
    · have : t = K + 1 := by omega
      subst this
      omega

end Go.Proofs.YtancoijbcobafaaGreatDoor

namespace Go.Proofs.YtancoijbcobafaaGreatDoor
open Go.RowKit

/-- A call that writes L more. -/
def Writes (P : Program) (F : FuncId) (args : Array Value) (w0 : World) (b : Nat) (nv : Value) (L : List UInt8) : Prop :=
  ∀ (l : List UInt8) (w : World), Below w0.heap.size w0 w → Lw w0.heap.size b nv l w → l.length + L.length ≤ 100000000000000 → Calls P F args w (Wrote w0.heap.size b nv (l ++ L) w)

/-- Behind a: a line writer that holds L; nothing below w0's blocks has turned, nor any block of another kind. -/
def Stand (w0 a : World) (b : Nat) (nv : Value) (L : List UInt8) (W : World) : Prop := Lw w0.heap.size b nv L W ∧ Below w0.heap.size a W ∧ KeepsW a W
theorem Stand.first {w0 a : World} {b : Nat} {nv : Value} {L : List UInt8} (h : Lw w0.heap.size b nv L a) : Stand w0 a b nv L a := ⟨h, Below.refl _ _, KeepsW.refl _⟩
theorem Stand.next {w0 a : World} {b : Nat} {nv : Value} {L : List UInt8} {W W' : World} (ha : w0.heap.size ≤ a.heap.size) (h : Stand w0 a b nv L W) (hb : Below W.heap.size W W') : Stand w0 a b nv L W' := ⟨h.1.below hb, h.2.1.trans (hb.mono (Nat.le_trans ha h.2.1.size)), h.2.2.trans (keepsW_below hb)⟩
theorem Stand.alloc {w0 a : World} {b : Nat} {nv : Value} {L : List UInt8} {W : World} (ha : w0.heap.size ≤ a.heap.size) (h : Stand w0 a b nv L W) (o : Obj) : Stand w0 a b nv L (W.alloc o) := h.next ha ((Below.refl _ _).alloc (Nat.le_refl _) _)
theorem Stand.drew {w0 a : World} {b : Nat} {nv : Value} {L : List UInt8} {W : World} (ha : w0.heap.size ≤ a.heap.size) (h : Stand w0 a b nv L W) : Stand w0 a b nv L W.drew := h.next ha (Below.refl _ _).drew
theorem Stand.wrote {w0 w a : World} {b : Nat} {nv : Value} {L : List UInt8} {W : World} (h : Stand w0 a b nv L W) (h0 : w0.heap.size ≤ w.heap.size) (ha : Below w.heap.size w a) : Wrote w0.heap.size b nv L w (.returned (.tuple #[])) W := ⟨rfl, h.1, (ha.mono h0).trans h.2.1, (keepsW_below ha).trans h.2.2⟩
theorem Stand.cell {w0 a : World} {b : Nat} {nv : Value} {L : List UInt8} {W : World} (h : Stand w0 a b nv L W) {y : Nat} {cs : Array Value} {T : TypeId} (hy : a.heap[y]? = some (.cells cs T (0, 0))) (h1 : T ≠ 5) (h2 : T ≠ 55) (j : Nat) : W.cell? ⟨y, j, none⟩ = cs[j]? := Lib.cell_of_heap (h.2.2 y cs T _ h1 h2 hy) j
/-- Texts written at once: at a world that has just laid them. -/
theorem Stand.texts {w0 a : World} {b : Nat} {nv : Value} {L : List UInt8} {W : World} (ha : w0.heap.size ≤ a.heap.size) (h : Stand w0 a b nv L W) (ss : List ByteArray) (n : Nat) (hn : ss.length = n) (h8 : n ≤ 8) (hl : L.length + (catL ss).length ≤ 100000000000000) {g : Nat} (hg : W.heap.size = g) :
    Calls Tryz.prog 49 #[.pointer (some ⟨b, 0, none⟩), .slice (some ⟨g, 0, none⟩) n n] (W.alloc (.cells (ss.map Value.string).toArray 9)) fun e w' => e = .returned (.tuple #[]) ∧ Stand w0 a b nv (L ++ catL ss) w' := by
  subst hg
  have hs := h.alloc ha (.cells (ss.map Value.string).toArray 9)
  refine (lwWrite_any w0.heap.size b W.heap.size nv L ss n _ hs.1 hn (heap_alloc_new _ _) h8 hl (Nat.le_trans ha hs.2.1.size)).mono ?_
  rintro e w' ⟨rfl, h1, h2, h3⟩
  exact ⟨rfl, h1, hs.2.1.trans h2, hs.2.2.trans h3⟩
theorem Stand.call {P : Program} {F : FuncId} {args : Array Value} {w0 a : World} {b : Nat} {nv : Value} {L X : List UInt8} {W : World} (h : Stand w0 a b nv L W) (hb : Below w0.heap.size w0 a) (c : Writes P F args w0 b nv X) (hl : L.length + X.length ≤ 100000000000000) :
    Calls P F args W fun e w' => e = .returned (.tuple #[]) ∧ Stand w0 a b nv (L ++ X) w' := by
  refine (c L W (hb.trans h.2.1) h.1 hl).mono ?_
  rintro e w' ⟨rfl, h1, h2, h3⟩
  exact ⟨rfl, h1, h.2.1.trans h2, h.2.2.trans h3⟩
theorem len3 {l A B C : List UInt8} (h : l.length + (A ++ B ++ C).length ≤ 100000000000000) : l.length + A.length ≤ 100000000000000 ∧ (l ++ A).length + B.length ≤ 100000000000000 ∧ (l ++ A ++ B).length + C.length ≤ 100000000000000 := by
  simp only [List.length_append] at h ⊢
  omega
theorem len2 {l A B : List UInt8} (h : l.length + (A ++ B).length ≤ 100000000000000) : l.length + A.length ≤ 100000000000000 ∧ (l ++ A).length + B.length ≤ 100000000000000 := by
  simp only [List.length_append] at h ⊢
  omega

set_option maxRecDepth 100000 in
set_option maxHeartbeats 1600000 in
theorem lwTerm_of (va : Option Addr) (N nc b c : Nat) (ns : List Nd) (HN : Hid (ns.length = N)) (hc : c < N) (w0 : World) (hR : NdR.Row w0 w0.heap.size (.slice va N nc) ns)
    (cV : Hid (Writes Tryz.prog 24 #[.pointer (some ⟨b, 0, none⟩), .int .i64 (c : Int)] w0 b (.slice va N nc) (valL ns (c : Int)))) :
    Writes Tryz.prog 51 #[.pointer (some ⟨b, 0, none⟩), .int .i64 (c : Int)] w0 b (.slice va N nc) (parL ns (valL ns) (c : Int)) := by
  intro l w hB0 hlw hlen
  have hcl : c < ns.length := by rw [HN.out]; exact hc
  have HB : Hid (Below w0.heap.size w0 w) := hB0
  have hz : w0.heap.size ≤ w.heap.size := hB0.size
  obtain ⟨nb, off, ka, kc, rfl, hb, e0, _, _, _, _⟩ := RowNd.at hR c hcl
  obtain ⟨kd, hkd⟩ : ∃ kd, Hid (ns[c].kind = kd) := ⟨_, (rfl : ns[c].kind = ns[c].kind)⟩
  rw [hkd.out] at e0
  have HK : Hid ((ns.getD (c : Int).toNat nd0).kind = kd) := by show _ = _; rw [← hkd.out, Int.toNat_natCast]; simp [List.getD, hcl]
  have hc0 : (0 : Int) ≤ (c : Int) := by omega
  have hc1 : (c : Int) < (N : Int) := by omega
  have f0 := (HB.out.cell (p := ⟨nb, off + c * 4, none⟩) hb).trans e0
  have n0 := hlw.nodes
  obtain ⟨nv, hnv⟩ : ∃ nv : Value, Hid (nv = .slice (some ⟨nb, off, none⟩) N nc) := ⟨_, (rfl : Value.slice (some ⟨nb, off, none⟩) N nc = _)⟩
  have S0 : Hid (Stand w0 w b nv l w) := by rw [hnv.out]; exact Stand.first hlw
  obtain ⟨L, hL⟩ : ∃ L, Hid (valL ns (c : Int) = L) := ⟨_, (rfl : valL ns (c : Int) = valL ns (c : Int))⟩
  rw [hL.out, ← hnv.out] at cV
  rw [← hnv.out]
  have Hlen : Hid (l.length + (parL ns (valL ns) (c : Int)).length ≤ 100000000000000) := hlen
  clear hR e0 hB0 hlw hlen
  by_cases hp : isIn kd 9 11 = true
  · have HP : Hid (parL ns (valL ns) (c : Int) = [40] ++ L ++ [41]) := by show _ = _; unfold parL; rw [HK.out, hp, hL.out]; rfl
    rw [HP.out] at Hlen ⊢
    have hkk : kd = 9 ∨ kd = 10 ∨ kd = 11 := by
      have : 9 ≤ kd ∧ kd ≤ 11 := by simpa [isIn] using hp
      omega
    have HZ : Hid (l.length + ([40] : List UInt8).length ≤ 100000000000000 ∧ (l ++ [40]).length + L.length ≤ 100000000000000 ∧ (l ++ [40] ++ L).length + ([41] : List UInt8).length ≤ 100000000000000) := len3 Hlen.out
    have HQ : Hid (l ++ ([40] ++ L ++ [41]) = l ++ [40] ++ L ++ [41]) := by show _ = _; simp
    rw [HQ.out]
    rcases hkk with rfl | rfl | rfl
    all_goals
      clear hp
      go_enter Tryz.func51, Tryz.ntmps51
      go_wp2_with fail
      go_at_call 49
      refine Calls.mono (S0.out.texts hz [⟨#[40]⟩] 1 rfl (by omega) HZ.out.1 rfl) ?_
      rintro e w1 ⟨rfl, s1⟩
      have S1 : Hid (Stand w0 w b nv (l ++ [40]) w1) := s1
      clear s1
      go_wp2_with fail
      go_at_call 24
      refine Calls.mono (S1.out.call HB.out cV.out HZ.out.2.1) ?_
      rintro e w2 ⟨rfl, s2⟩
      have S2 : Hid (Stand w0 w b nv (l ++ [40] ++ L) w2) := s2
      clear s2
      go_wp2_with fail
      go_at_call 49
      refine Calls.mono (S2.out.texts hz [⟨#[41]⟩] 1 rfl (by omega) HZ.out.2.2 rfl) ?_
      rintro e w3 ⟨rfl, s3⟩
      have S3 : Hid (Stand w0 w b nv (l ++ [40] ++ L ++ [41]) w3) := s3
      clear s3
      go_wp2
      go_returns
      exact S3.out.wrote hz (Below.refl _ _)
  · have HP : Hid (parL ns (valL ns) (c : Int) = L) := by show _ = _; unfold parL; rw [HK.out, if_neg hp, hL.out]
    rw [HP.out] at Hlen ⊢
    have hq : ¬ (9 ≤ kd ∧ kd ≤ 11) := fun h => hp (by simpa [isIn] using h)
    have n9 : (kd == 9) = false := by simp; omega
    have n10 : (kd == 10) = false := by simp; omega
    have n11 : (kd == 11) = false := by simp; omega
    clear hp hq
    go_enter Tryz.func51, Tryz.ntmps51
    go_wp2_with fail
    go_at_call 24
    refine Calls.mono (S0.out.call HB.out cV.out Hlen.out) ?_
    rintro e w2 ⟨rfl, s2⟩
    have S2 : Hid (Stand w0 w b nv (l ++ L) w2) := s2
    clear s2
    go_wp2
    go_returns
    exact S2.out.wrote hz (Below.refl _ _)

theorem argTo_mono (g : Int → List UInt8) (cs : List Int) (t K : Nat) (h : t ≤ K) : (argTo g cs t).length ≤ (argTo g cs K).length := by
  induction K with
  | zero =>
    have : t = 0 := by omega
    subst this
    omega
  | succ K ih =>
    rcases Nat.lt_or_ge t (K + 1) with h1 | h1
    · have := ih (by omega)
      simp only [argTo, List.length_append]
      omega
    · have : t = K + 1 := by omega
      subst this
      omega
/-- Two terms and what stands between them. -/
theorem lwPair_of (nv : Value) (b : Nat) (w0 : World) (kb ko kc : Nat) (c d : Int) (G : ByteArray) (P Q : List UInt8) (hkb : kb < w0.heap.size) (t0 : w0.cell? ⟨kb, ko, none⟩ = some (.int .i64 c)) (t1 : w0.cell? ⟨kb, ko + 1, none⟩ = some (.int .i64 d))
    (cP : Hid (Writes Tryz.prog 51 #[.pointer (some ⟨b, 0, none⟩), .int .i64 c] w0 b nv P)) (cQ : Hid (Writes Tryz.prog 51 #[.pointer (some ⟨b, 0, none⟩), .int .i64 d] w0 b nv Q)) :
    Writes Tryz.prog 52 #[.pointer (some ⟨b, 0, none⟩), .slice (some ⟨kb, ko, none⟩) 2 kc, .string G] w0 b nv (P ++ catL [G] ++ Q) := by
  intro l w hB0 hlw hlen
  have HB : Hid (Below w0.heap.size w0 w) := hB0
  have hz : w0.heap.size ≤ w.heap.size := hB0.size
  have S0 : Hid (Stand w0 w b nv l w) := Stand.first hlw
  have HZ : Hid (l.length + P.length ≤ 100000000000000 ∧ (l ++ P).length + (catL [G]).length ≤ 100000000000000 ∧ (l ++ P ++ catL [G]).length + Q.length ≤ 100000000000000) := len3 hlen
  have HQ : Hid (l ++ (P ++ catL [G] ++ Q) = l ++ P ++ catL [G] ++ Q) := by show _ = _; simp
  have HT : Hid (∀ W, Stand w0 w b nv l W ∨ True → Below w0.heap.size w W → W.cell? ⟨kb, ko, none⟩ = some (.int .i64 c) ∧ W.cell? ⟨kb, ko + 1, none⟩ = some (.int .i64 d)) := fun W _ h => ⟨((HB.out.trans h).cell (p := ⟨kb, ko, none⟩) hkb).trans t0, ((HB.out.trans h).cell (p := ⟨kb, ko + 1, none⟩) hkb).trans t1⟩
  rw [HQ.out]
  clear hB0 hlw hlen t0 t1
  obtain ⟨x0, _⟩ := HT.out w (.inr trivial) (Below.refl _ _)
  go_enter Tryz.func52, Tryz.ntmps52
  go_wp2_with fail
  go_at_call 51
  refine Calls.mono (S0.out.call HB.out cP.out HZ.out.1) ?_
  rintro e w1 ⟨rfl, s1⟩
  have S1 : Hid (Stand w0 w b nv (l ++ P) w1) := s1
  clear s1
  go_wp2_with fail
  go_at_call 49
  refine Calls.mono (S1.out.texts hz [G] 1 rfl (by omega) HZ.out.2.1 rfl) ?_
  rintro e w2 ⟨rfl, s2⟩
  have S2 : Hid (Stand w0 w b nv (l ++ P ++ catL [G]) w2) := s2
  obtain ⟨_, y1⟩ := HT.out w2 (.inr trivial) s2.2.1
  clear s2
  go_wp2_with fail
  go_at_call 51
  refine Calls.mono (S2.out.call HB.out cQ.out HZ.out.2.2) ?_
  rintro e w3 ⟨rfl, s3⟩
  have S3 : Hid (Stand w0 w b nv (l ++ P ++ catL [G] ++ Q) w3) := s3
  clear s3
  go_wp2
  go_returns
  exact S3.out.wrote hz (Below.refl _ _)

set_option maxRecDepth 100000 in
set_option maxHeartbeats 1600000 in
theorem lwCall_of (nv : Value) (b K kc : Nat) (ka : Option Addr) (w0 : World) (nm : Int) (tx : ByteArray) (ks : List Int) (g : Int → List UInt8) (HK : Hid (ks.length = K)) (hK3 : K ≤ 3) (HI : Hid (RowI w0 w0.heap.size (.slice ka K kc) ks))
    (cV : Hid (∀ c ∈ ks, Writes Tryz.prog 24 #[.pointer (some ⟨b, 0, none⟩), .int .i64 c] w0 b nv (g c))) :
    Writes Tryz.prog 53 #[.pointer (some ⟨b, 0, none⟩), .agg #[.int .i64 12, .int .i64 nm, .string tx, .slice ka K kc]] w0 b nv (tx.data.toList ++ [40] ++ argTo g ks K ++ [41]) := by
  intro l w hB0 hlw hlen
  have HB : Hid (Below w0.heap.size w0 w) := hB0
  have hz : w0.heap.size ≤ w.heap.size := hB0.size
  have HA : Hid (Below w.heap.size w (w.alloc (.cells #[.int .i64 12, .int .i64 nm, .string tx, .slice ka K kc] 46)) ∧ (w.alloc (.cells #[.int .i64 12, .int .i64 nm, .string tx, .slice ka K kc] 46)).heap[w.heap.size]? = some (.cells #[.int .i64 12, .int .i64 nm, .string tx, .slice ka K kc] 46 (0, 0)) ∧ Below w0.heap.size w0 (w.alloc (.cells #[.int .i64 12, .int .i64 nm, .string tx, .slice ka K kc] 46)) ∧ Stand w0 (w.alloc (.cells #[.int .i64 12, .int .i64 nm, .string tx, .slice ka K kc] 46)) b nv l (w.alloc (.cells #[.int .i64 12, .int .i64 nm, .string tx, .slice ka K kc] 46))) :=
    ⟨(Below.refl _ _).alloc (Nat.le_refl _) _, heap_alloc_new _ _, hB0.trans (((Below.refl _ _).alloc (Nat.le_refl _) _).mono hz), Stand.first (hlw.alloc _)⟩
  have hza : Hid (w0.heap.size ≤ (w.alloc (.cells #[.int .i64 12, .int .i64 nm, .string tx, .slice ka K kc] 46)).heap.size) := HA.out.2.2.1.size
  obtain ⟨T, hT⟩ : ∃ T, Hid (tx.data.toList ++ [40] = T) := ⟨_, (rfl : tx.data.toList ++ [40] = tx.data.toList ++ [40])⟩
  have HC : Hid (catL [tx, ⟨#[40]⟩] = T) := by rw [← hT.out]; exact rfl
  rw [hT.out] at hlen ⊢
  have HZ : Hid (l.length + T.length + (argTo g ks K).length + 1 ≤ 100000000000000) := by simp only [List.length_append, List.length_cons, List.length_nil] at hlen; show _ ≤ _; omega
  have HM : Hid (∀ t, t < K → (argTo g ks (t + 1)).length ≤ (argTo g ks K).length) := fun t ht => argTo_mono g ks (t + 1) K (by omega)
  obtain ⟨R, hR⟩ : ∃ R, Hid (l ++ (T ++ argTo g ks K ++ [41]) = R) := ⟨_, (rfl : l ++ (T ++ argTo g ks K ++ [41]) = l ++ (T ++ argTo g ks K ++ [41]))⟩
  rw [hR.out]
  clear hlen hB0 hlw
  go_enter Tryz.func53, Tryz.ntmps53
  go_wp2_with fail
  go_at_call 49
  refine Calls.mono (HA.out.2.2.2.texts hza.out [tx, ⟨#[40]⟩] 2 rfl (by omega) (by rw [HC.out]; have := HZ.out; omega) (by simp)) ?_
  rintro e w1 ⟨rfl, s1⟩
  rw [HC.out] at s1
  generalize w.alloc (.cells #[.int .i64 12, .int .i64 nm, .string tx, .slice ka K kc] 46) = a at HA hza s1 ⊢
  have S1 : Hid (Stand w0 a b nv (l ++ T ++ argTo g ks 0) w1) := by show Stand _ _ _ _ _ _; simp only [argTo, List.append_nil]; exact s1
  have y3 : w1.cell? ⟨w.heap.size, 3, none⟩ = some (.slice ka K kc) := s1.cell HA.out.2.1 (by decide) (by decide) 3
  clear s1
  go_wp2
  go_loopw [14] (fun i wr => ∃ t : Nat, t ≤ K ∧ i = .int .i64 (t : Int) ∧ Hid (Stand w0 a b nv (l ++ T ++ argTo g ks t) wr)) (fun i _ => K - (intOf i).toNat)
  case atStart => exact ⟨0, Nat.zero_le _, rfl, S1⟩
  case round =>
    obtain ⟨t, ht, rfl, HS⟩ := hrel
    clear y3
    by_cases hlt : t < K
    · have ht0 : (0 : Int) ≤ (t : Int) := by omega
      have ht1 : (t : Int) < (K : Int) := by omega
      have htl : t < ks.length := by rw [HK.out]; exact hlt
      obtain ⟨kb, ko, rfl, hkb, t0⟩ := HI.out.at t htl
      obtain ⟨c, hc⟩ : ∃ c, Hid (ks[t] = c) := ⟨_, (rfl : ks[t] = ks[t])⟩
      have f0 := ((HA.out.2.2.1.trans HS.out.2.1).cell (p := ⟨kb, ko + t, none⟩) (by show kb < _; omega)).trans t0
      rw [hc.out] at f0
      have hcm : c ∈ ks := by rw [← hc.out]; exact List.getElem_mem htl
      clear t0
      by_cases htz : t = 0
      · subst htz
        have HE : Hid (l ++ T ++ argTo g ks (0 + 1) = l ++ T ++ argTo g ks 0 ++ g c) := by
          show _ = _
          simp only [argTo, getD_at htl, hc.out, if_true, List.append_nil, List.nil_append, List.append_assoc]
        rw [Nat.add_zero] at f0
        have ht2 : (0 : Int) < (K : Int) := by omega
        have HZ2 : Hid ((l ++ T ++ argTo g ks 0).length + (g c).length ≤ 100000000000000) := by
          show _ ≤ _
          have h1 := congrArg List.length HE.out
          simp only [List.length_append] at h1 ⊢
          have h2 := HM.out 0 hlt
          have h3 := HZ.out
          omega
        go_wp2_with fail
        go_at_call 24
        refine Calls.mono (HS.out.call HA.out.2.2.1 (cV.out c hcm) HZ2.out) ?_
        rintro e w2 ⟨rfl, s2⟩
        have S2 : Hid (Stand w0 a b nv (l ++ T ++ argTo g ks (0 + 1)) w2) := by rw [HE.out]; exact s2
        clear s2
        go_wp2
        go_roundw
        case rel => exact ⟨0 + 1, by omega, by go_num, S2⟩
        case measure => simp [intOf]; omega
      · have htp : (0 : Int) < (t : Int) := by omega
        have HE : Hid (l ++ T ++ argTo g ks (t + 1) = l ++ T ++ argTo g ks t ++ [44, 32] ++ g c) := by
          show _ = _
          simp only [argTo, getD_at htl, hc.out, if_neg htz, List.append_assoc]
        have HZ2 : Hid ((l ++ T ++ argTo g ks t).length + ([44, 32] : List UInt8).length ≤ 100000000000000 ∧ (l ++ T ++ argTo g ks t ++ [44, 32]).length + (g c).length ≤ 100000000000000) := by
          show _ ∧ _
          have h1 := congrArg List.length HE.out
          simp only [List.length_append] at h1 ⊢
          have h2 := HM.out t hlt
          have h3 := HZ.out
          omega
        go_wp2_with fail
        go_at_call 49
        refine Calls.mono (HS.out.texts hza.out [⟨#[44, 32]⟩] 1 rfl (by omega) HZ2.out.1 rfl) ?_
        rintro e w2 ⟨rfl, s2⟩
        have S2 : Hid (Stand w0 a b nv (l ++ T ++ argTo g ks t ++ [44, 32]) w2) := s2
        clear s2
        go_wp2_with fail
        go_at_call 24
        refine Calls.mono (S2.out.call HA.out.2.2.1 (cV.out c hcm) HZ2.out.2) ?_
        rintro e w3 ⟨rfl, s3⟩
        have S3 : Hid (Stand w0 a b nv (l ++ T ++ argTo g ks (t + 1)) w3) := by rw [HE.out]; exact s3
        clear s3
        go_wp2
        go_roundw
        case rel => exact ⟨t + 1, by omega, by go_num, S3⟩
        case measure => simp [intOf]; omega
    · have htK : t = K := by omega
      subst htK
      have HZ3 : Hid ((l ++ T ++ argTo g ks t).length + ([41] : List UInt8).length ≤ 100000000000000) := by
        show _ ≤ _
        have h3 := HZ.out
        simp only [List.length_append, List.length_cons, List.length_nil]
        omega
      go_wp2_with fail
      go_at_call 49
      refine Calls.mono (HS.out.texts hza.out [⟨#[41]⟩] 1 rfl (by omega) HZ3.out rfl) ?_
      rintro e w2 ⟨rfl, s2⟩
      have S2 : Hid (Stand w0 a b nv R w2) := by rw [← hR.out, ← List.append_assoc, ← List.append_assoc]; exact s2
      clear s2
      go_wp2
      go_returns
      exact S2.out.wrote hz HA.out.1

end Go.Proofs.YtancoijbcobafaaGreatDoor

namespace Go.Proofs.YtancoijbcobafaaGreatDoor
open Go.RowKit

/-- A block of its own, just laid beside a line writer. -/
structure Laid (w0 w : World) (b : Nat) (nv : Value) (l : List UInt8) (cs : Array Value) (T : TypeId) (a : World) : Prop where
  up : Below w.heap.size w a
  cell : a.heap[w.heap.size]? = some (.cells cs T (0, 0))
  base : Below w0.heap.size w0 a
  stand : Stand w0 a b nv l a
  size : w0.heap.size ≤ a.heap.size
theorem Laid.make {w0 w : World} {b : Nat} {nv : Value} {l : List UInt8} (hb : Below w0.heap.size w0 w) (h : Lw w0.heap.size b nv l w) (cs : Array Value) (T : TypeId) : Laid w0 w b nv l cs T (w.alloc (.cells cs T)) :=
  ⟨(Below.refl _ _).alloc (Nat.le_refl _) _, heap_alloc_new _ _, hb.trans (((Below.refl _ _).alloc (Nat.le_refl _) _).mono hb.size), Stand.first (h.alloc _), (hb.trans (((Below.refl _ _).alloc (Nat.le_refl _) _).mono hb.size)).size⟩

set_option maxRecDepth 100000 in
set_option maxHeartbeats 6400000 in
theorem lwValue_any (va : Option Addr) (N nc m b : Nat) (ns : List Nd) (w0 : World) (nv : Value) (HNV : Hid (nv = .slice va N nc)) (HN : Hid (ns.length = N)) (hm : m < N) (HD : Hid (deepOf ns (m : Int) ≠ 0)) (HR : Hid (NdR.Row w0 w0.heap.size (.slice va N nc) ns)) (HT : Hid (Tab10 w0)) :
    ∀ k : Nat, k ≤ m → isVal (ns.getD k nd0).kind = true → Writes Tryz.prog 24 #[.pointer (some ⟨b, 0, none⟩), .int .i64 (k : Int)] w0 b nv (valL ns (k : Int)) := by
  intro k
  induction k using Nat.strongRecOn with
  | _ k ih =>
  intro hk hv l w hB0 hlw hlen
  have hml : m < ns.length := by rw [HN.out]; exact hm
  have hkl : k < ns.length := by rw [HN.out]; omega
  have hok := deep_nodes hml HD.out k hk
  have HVK := valKids hok hv
  have HB : Hid (valL ns (k : Int) = valBody ns (valL ns) (ns.getD k nd0)) := valL_body hml HD.out hk hv
  have HKid : Hid (∀ c ∈ (ns.getD k nd0).kids, 0 ≤ c ∧ c < (k : Int) ∧ isVal (ns.getD c.toNat nd0).kind = true) := fun c hc => by
    have hb := ahead_of hml HD.out k hk c hc
    exact ⟨hb.1, hb.2, kid_val hok hv c hc⟩
  have HVal : Hid (∀ c ∈ (ns.getD k nd0).kids, Writes Tryz.prog 24 #[.pointer (some ⟨b, 0, none⟩), .int .i64 c] w0 b nv (valL ns c)) := fun c hc => by
    obtain ⟨h0, h1, h2⟩ := HKid.out c hc
    obtain ⟨n, rfl⟩ : ∃ n : Nat, c = (n : Int) := ⟨c.toNat, by omega⟩
    rw [Int.toNat_natCast] at h2
    exact ih n (by omega) (by omega) h2
  have HTerm : Hid (∀ c ∈ (ns.getD k nd0).kids, Writes Tryz.prog 51 #[.pointer (some ⟨b, 0, none⟩), .int .i64 c] w0 b nv (parL ns (valL ns) c)) := fun c hc => by
    have h3 := HVal.out c hc
    obtain ⟨h0, h1, h2⟩ := HKid.out c hc
    obtain ⟨n, rfl⟩ : ∃ n : Nat, c = (n : Int) := ⟨c.toNat, by omega⟩
    rw [HNV.out] at h3 ⊢
    exact lwTerm_of va N nc b n ns HN (by omega) w0 HR.out h3
  clear ih
  have hk0 : (0 : Int) ≤ (k : Int) := by omega
  have hk1 : (k : Int) < (N : Int) := by omega
  have hz : w0.heap.size ≤ w.heap.size := hB0.size
  obtain ⟨nb, off, ka, kc, rfl, hb, e0, e1, e2, e3, hK⟩ := RowNd.at HR.out k hkl
  obtain ⟨x, hx⟩ : ∃ x, Hid (ns[k] = x) := ⟨_, (rfl : ns[k] = ns[k])⟩
  have HX : Hid (ns.getD k nd0 = x) := by show _ = _; rw [← hx.out]; simp [List.getD, hkl]
  rw [hx.out] at e0 e1 e2 e3 hK
  rw [HX.out] at HVK HB HKid HVal HTerm
  obtain ⟨kd, nm, tx, ks⟩ := x
  simp only at e0 e1 e2 e3 hK
  obtain ⟨hv1, hone, htwo, hfew, hnum, hname⟩ := HVK
  simp only at hv1 hone htwo hfew hnum hname HVal HTerm
  obtain ⟨K, HK⟩ : ∃ K, Hid (ks.length = K) := ⟨_, (rfl : ks.length = ks.length)⟩
  rw [HK.out] at e3 hK hone htwo hfew
  have HI : Hid (RowI w0 w0.heap.size (.slice ka K kc) ks) := hK
  have f0 := (hB0.cell (p := ⟨nb, off + k * 4, none⟩) hb).trans e0
  have f1 := (hB0.cell (p := ⟨nb, off + k * 4 + 1, none⟩) hb).trans e1
  have f2 := (hB0.cell (p := ⟨nb, off + k * 4 + 2, none⟩) hb).trans e2
  have f3 := (hB0.cell (p := ⟨nb, off + k * 4 + 3, none⟩) hb).trans e3
  have n0 := hlw.nodes
  rw [HNV.out] at n0
  obtain ⟨R, HRR⟩ : ∃ R, Hid (valL ns (k : Int) = R) := ⟨_, (rfl : valL ns (k : Int) = valL ns (k : Int))⟩
  rw [HRR.out] at HB hlen ⊢
  have HZ : Hid (l.length + R.length ≤ 100000000000000) := hlen
  have HW : Hid (Below w0.heap.size w0 w ∧ Lw w0.heap.size b nv l w) := ⟨hB0, hlw⟩
  clear e0 e1 e2 e3 hK hlen hlw hB0 hx HRR
  have hcase : kd = 1 ∨ kd = 2 ∨ kd = 3 ∨ kd = 4 ∨ kd = 5 ∨ kd = 6 ∨ kd = 7 ∨ kd = 8 ∨ kd = 12 ∨ (9 ≤ kd ∧ kd ≤ 11) := by omega
  have HA : Hid (Laid w0 w b nv l #[.int .i64 kd, .int .i64 nm, .string tx, .slice ka K kc] 46 (w.alloc (.cells #[.int .i64 kd, .int .i64 nm, .string tx, .slice ka K kc] 46))) := Laid.make HW.out.1 HW.out.2 _ _
  rcases hcase with rfl | rfl | rfl | rfl | rfl | rfl | rfl | rfl | rfl | hpr
  · have HE : Hid (catL [⟨(Lib.itoa nm).toArray⟩] = R) := by
      show _ = _
      rw [HB.out]
      simp [catL, valBody]
    rw [← HE.out] at HZ ⊢
    obtain ⟨D, hD⟩ : ∃ D : ByteArray, Hid ((⟨(Lib.itoa nm).toArray⟩ : ByteArray) = D) := ⟨_, (rfl : (⟨(Lib.itoa nm).toArray⟩ : ByteArray) = ⟨(Lib.itoa nm).toArray⟩)⟩
    rw [hD.out] at HZ ⊢
    have cD : Hid (∀ W, Below w0.heap.size w0 W → Calls Tryz.prog 50 #[.int .i64 nm] W fun e w' => e = .returned (.string D) ∧ Below W.heap.size W w') := fun W hW => by rw [← hD.out]; exact implDecimal_any nm W (by omega) (by omega) (HT.out.below hW)
    go_enter Tryz.func24, Tryz.ntmps24
    go_wp2_with fail
    go_at_call 50
    refine Calls.mono (cD.out _ HA.out.base) ?_
    rintro e w1 ⟨rfl, hb1⟩
    have S1 : Hid (Stand w0 (w.alloc (.cells #[.int .i64 1, .int .i64 nm, .string tx, .slice ka K kc] 46)) b nv l w1) := HA.out.stand.next HA.out.size hb1
    clear hb1
    go_wp2_with fail
    go_at_call 49
    refine Calls.mono (S1.out.texts HA.out.size [D] 1 rfl (by omega) HZ.out rfl) ?_
    rintro e w2 ⟨rfl, s2⟩
    have S2 : Hid (Wrote w0.heap.size b nv (l ++ catL [D]) w (.returned (.tuple #[])) w2) := s2.wrote hz HA.out.up
    clear s2
    go_wp2
    go_returns
    exact S2.out
  · have HE : Hid (catL [tx] = R) := by
      show _ = _
      rw [HB.out]
      simp [catL, valBody]
    rw [← HE.out] at HZ ⊢
    go_enter Tryz.func24, Tryz.ntmps24
    go_wp2_with fail
    go_at_call 49
    refine Calls.mono (HA.out.stand.texts HA.out.size [tx] 1 rfl (by omega) HZ.out (by simp)) ?_
    rintro e w2 ⟨rfl, s2⟩
    have S2 : Hid (Wrote w0.heap.size b nv (l ++ catL [tx]) w (.returned (.tuple #[])) w2) := s2.wrote hz HA.out.up
    clear s2
    go_wp2
    go_returns
    exact S2.out
  · have HE : Hid (catL [⟨#[42]⟩, tx] = R) := by
      show _ = _
      rw [HB.out]
      simp [catL, valBody]
    rw [← HE.out] at HZ ⊢
    go_enter Tryz.func24, Tryz.ntmps24
    go_wp2_with fail
    go_at_call 49
    refine Calls.mono (HA.out.stand.texts HA.out.size [⟨#[42]⟩, tx] 2 rfl (by omega) HZ.out (by simp)) ?_
    rintro e w2 ⟨rfl, s2⟩
    have S2 : Hid (Wrote w0.heap.size b nv (l ++ catL [⟨#[42]⟩, tx]) w (.returned (.tuple #[])) w2) := s2.wrote hz HA.out.up
    clear s2
    go_wp2
    go_returns
    exact S2.out
  · have HE : Hid (catL [⟨#[99, 108, 111, 110, 101, 32]⟩, tx] = R) := by
      show _ = _
      rw [HB.out]
      simp [catL, valBody]
    rw [← HE.out] at HZ ⊢
    go_enter Tryz.func24, Tryz.ntmps24
    go_wp2_with fail
    go_at_call 49
    refine Calls.mono (HA.out.stand.texts HA.out.size [⟨#[99, 108, 111, 110, 101, 32]⟩, tx] 2 rfl (by omega) HZ.out (by simp)) ?_
    rintro e w2 ⟨rfl, s2⟩
    have S2 : Hid (Wrote w0.heap.size b nv (l ++ catL [⟨#[99, 108, 111, 110, 101, 32]⟩, tx]) w (.returned (.tuple #[])) w2) := s2.wrote hz HA.out.up
    clear s2
    go_wp2
    go_returns
    exact S2.out
  · have HE : Hid (catL [⟨#[38]⟩, tx] = R) := by
      show _ = _
      rw [HB.out]
      simp [catL, valBody]
    rw [← HE.out] at HZ ⊢
    go_enter Tryz.func24, Tryz.ntmps24
    go_wp2_with fail
    go_at_call 49
    refine Calls.mono (HA.out.stand.texts HA.out.size [⟨#[38]⟩, tx] 2 rfl (by omega) HZ.out (by simp)) ?_
    rintro e w2 ⟨rfl, s2⟩
    have S2 : Hid (Wrote w0.heap.size b nv (l ++ catL [⟨#[38]⟩, tx]) w (.returned (.tuple #[])) w2) := s2.wrote hz HA.out.up
    clear s2
    go_wp2
    go_returns
    exact S2.out
  · have HE : Hid (catL [⟨#[38, 109, 117, 116, 32]⟩, tx] = R) := by
      show _ = _
      rw [HB.out]
      simp [catL, valBody]
    rw [← HE.out] at HZ ⊢
    go_enter Tryz.func24, Tryz.ntmps24
    go_wp2_with fail
    go_at_call 49
    refine Calls.mono (HA.out.stand.texts HA.out.size [⟨#[38, 109, 117, 116, 32]⟩, tx] 2 rfl (by omega) HZ.out (by simp)) ?_
    rintro e w2 ⟨rfl, s2⟩
    have S2 : Hid (Wrote w0.heap.size b nv (l ++ catL [⟨#[38, 109, 117, 116, 32]⟩, tx]) w (.returned (.tuple #[])) w2) := s2.wrote hz HA.out.up
    clear s2
    go_wp2
    go_returns
    exact S2.out
  · have HE : Hid (catL [⟨#[105, 110, 112, 117, 116]⟩] = R) := by
      show _ = _
      rw [HB.out]
      simp [catL, valBody]
    rw [← HE.out] at HZ ⊢
    go_enter Tryz.func24, Tryz.ntmps24
    go_wp2_with fail
    go_at_call 49
    refine Calls.mono (HA.out.stand.texts HA.out.size [⟨#[105, 110, 112, 117, 116]⟩] 1 rfl (by omega) HZ.out (by simp)) ?_
    rintro e w2 ⟨rfl, s2⟩
    have S2 : Hid (Wrote w0.heap.size b nv (l ++ catL [⟨#[105, 110, 112, 117, 116]⟩]) w (.returned (.tuple #[])) w2) := s2.wrote hz HA.out.up
    clear s2
    go_wp2
    go_returns
    exact S2.out
  · -- new
    have hK1 : K = 1 := hone rfl
    subst hK1
    have h0l : 0 < ks.length := by rw [HK.out]; omega
    obtain ⟨kb, ko, rfl, hkb, t0⟩ := HI.out.at 0 h0l
    obtain ⟨c, hc⟩ : ∃ c, Hid (ks[0] = c) := ⟨_, (rfl : ks[0] = ks[0])⟩
    rw [hc.out, Nat.add_zero] at t0
    have hcm : c ∈ ks := by rw [← hc.out]; exact List.getElem_mem h0l
    obtain ⟨P, hP⟩ : ∃ P, Hid (parL ns (valL ns) c = P) := ⟨_, (rfl : parL ns (valL ns) c = parL ns (valL ns) c)⟩
    have HE : Hid (R = [110, 101, 119, 32] ++ P) := by
      show _ = _
      rw [HB.out]
      show [110, 101, 119, 32] ++ parL ns (valL ns) (ks.getD 0 0) = _
      rw [getD_at h0l, hc.out, hP.out]
    have cP : Hid (Writes Tryz.prog 51 #[.pointer (some ⟨b, 0, none⟩), .int .i64 c] w0 b nv P) := by rw [← hP.out]; exact HTerm.out c hcm
    rw [HE.out] at HZ
    have HZ2 : Hid (l.length + ([110, 101, 119, 32] : List UInt8).length ≤ 100000000000000 ∧ (l ++ [110, 101, 119, 32]).length + P.length ≤ 100000000000000) := len2 HZ.out
    have HL : Hid (l ++ R = l ++ [110, 101, 119, 32] ++ P) := by show _ = _; rw [HE.out, List.append_assoc]
    rw [HL.out]
    go_enter Tryz.func24, Tryz.ntmps24
    go_wp2_with fail
    go_at_call 49
    refine Calls.mono (HA.out.stand.texts HA.out.size [⟨#[110, 101, 119, 32]⟩] 1 rfl (by omega) HZ2.out.1 (by simp)) ?_
    rintro e w2 ⟨rfl, s2⟩
    have S2 : Hid (Stand w0 (w.alloc (.cells #[.int .i64 8, .int .i64 nm, .string tx, .slice (some ⟨kb, ko, none⟩) 1 kc] 46)) b nv (l ++ [110, 101, 119, 32]) w2) := s2
    have y3 : w2.cell? ⟨w.heap.size, 3, none⟩ = some (.slice (some ⟨kb, ko, none⟩) 1 kc) := s2.cell HA.out.cell (by decide) (by decide) 3
    have y4 := ((HA.out.base.trans s2.2.1).cell (p := ⟨kb, ko, none⟩) hkb).trans t0
    clear s2
    go_wp2_with fail
    go_at_call 51
    refine Calls.mono (S2.out.call HA.out.base cP.out HZ2.out.2) ?_
    rintro e w3 ⟨rfl, s3⟩
    have S3 : Hid (Wrote w0.heap.size b nv (l ++ [110, 101, 119, 32] ++ P) w (.returned (.tuple #[])) w3) := s3.wrote hz HA.out.up
    clear s3
    go_wp2
    go_returns
    exact S3.out
  · -- a call
    have HE : Hid (R = tx.data.toList ++ [40] ++ argTo (valL ns) ks K ++ [41]) := by
      show _ = _
      rw [HB.out, ← HK.out]
      rfl
    have cP : Hid (Writes Tryz.prog 53 #[.pointer (some ⟨b, 0, none⟩), .agg #[.int .i64 12, .int .i64 nm, .string tx, .slice ka K kc]] w0 b nv R) := by
      rw [HE.out]
      exact lwCall_of nv b K kc ka w0 nm tx ks (valL ns) HK hfew HI HVal
    go_enter Tryz.func24, Tryz.ntmps24
    go_wp2_with fail
    go_at_call 53
    refine Calls.mono (HA.out.stand.call HA.out.base cP.out HZ.out) ?_
    rintro e w3 ⟨rfl, s3⟩
    have S3 : Hid (Wrote w0.heap.size b nv (l ++ R) w (.returned (.tuple #[])) w3) := s3.wrote hz HA.out.up
    clear s3
    go_wp2
    go_returns
    exact S3.out
  · -- one of two
    have hK2 : K = 2 := htwo hpr.1 hpr.2
    subst hK2
    have h0l : 0 < ks.length := by rw [HK.out]; omega
    have h1l : 1 < ks.length := by rw [HK.out]; omega
    obtain ⟨kb, ko, rfl, hkb, t0⟩ := HI.out.at 0 h0l
    obtain ⟨kb', ko', heq, hkb', t1⟩ := HI.out.at 1 h1l
    obtain ⟨rfl, rfl⟩ : kb = kb' ∧ ko = ko' := by
      simp only [Option.some.injEq, Addr.mk.injEq] at heq
      exact ⟨heq.1, heq.2.1⟩
    obtain ⟨c, hc⟩ : ∃ c, Hid (ks[0] = c) := ⟨_, (rfl : ks[0] = ks[0])⟩
    obtain ⟨d, hd⟩ : ∃ c, Hid (ks[1] = c) := ⟨_, (rfl : ks[1] = ks[1])⟩
    rw [hc.out, Nat.add_zero] at t0
    rw [hd.out] at t1
    have hcm : c ∈ ks := by rw [← hc.out]; exact List.getElem_mem h0l
    have hdm : d ∈ ks := by rw [← hd.out]; exact List.getElem_mem h1l
    obtain ⟨P, hP⟩ : ∃ P, Hid (parL ns (valL ns) c = P) := ⟨_, (rfl : parL ns (valL ns) c = parL ns (valL ns) c)⟩
    obtain ⟨Q, hQ⟩ : ∃ P, Hid (parL ns (valL ns) d = P) := ⟨_, (rfl : parL ns (valL ns) d = parL ns (valL ns) d)⟩
    have HE : Hid (R = P ++ sgnL kd ++ Q) := by
      show _ = _
      rw [HB.out, ← hP.out, ← hQ.out, ← hc.out, ← hd.out, ← getD_at h0l, ← getD_at h1l]
      unfold valBody
      simp only
      rw [if_neg (by omega), if_neg (by omega), if_neg (by omega), if_neg (by omega), if_neg (by omega), if_neg (by omega), if_neg (by omega), if_neg (by omega), if_neg (by omega)]
    have cP : Hid (∀ G, Writes Tryz.prog 52 #[.pointer (some ⟨b, 0, none⟩), .slice (some ⟨kb, ko, none⟩) 2 kc, .string G] w0 b nv (P ++ catL [G] ++ Q)) := fun G =>
      lwPair_of nv b w0 kb ko kc c d G P Q hkb t0 t1 (by rw [← hP.out]; exact HTerm.out c hcm) (by rw [← hQ.out]; exact HTerm.out d hdm)
    have hkk : kd = 9 ∨ kd = 10 ∨ kd = 11 := by omega
    rcases hkk with rfl | rfl | rfl
    all_goals
      clear hpr t0 t1
      go_enter Tryz.func24, Tryz.ntmps24
      go_wp2_with fail
      go_at_call 52
      refine Calls.mono (HA.out.stand.call HA.out.base (cP.out _) (by rw [HE.out] at HZ; exact HZ.out)) ?_
      rintro e w3 ⟨rfl, s3⟩
      have S3 : Hid (Wrote w0.heap.size b nv (l ++ R) w (.returned (.tuple #[])) w3) := by rw [HE.out]; exact s3.wrote hz HA.out.up
      clear s3
      go_wp2
      go_returns
      exact S3.out

end Go.Proofs.YtancoijbcobafaaGreatDoor

namespace Go.Proofs.YtancoijbcobafaaGreatDoor
open Go.RowKit

/-- So many times two blanks. -/
def blk2 (c : Nat) : List UInt8 := List.replicate (2 * c) 32
theorem blk2_repeat (c : Nat) : Lib.repeatL [32, 32] c = blk2 c := by
  have := Lib.repeatL_replicate 32 2 c
  unfold blk2
  rw [Nat.mul_comm]
  exact this
theorem catL_one (L : List UInt8) : catL [⟨L.toArray⟩] = L := by simp [catL]

set_option maxRecDepth 100000 in
theorem lwBegin_of (nv : Value) (b c : Nat) (w0 : World) (hc : c ≤ 21) : Writes Tryz.prog 57 #[.pointer (some ⟨b, 0, none⟩), .int .i64 (c : Int)] w0 b nv (blk2 c) := by
  intro l w hB0 hlw hlen
  have hz : w0.heap.size ≤ w.heap.size := hB0.size
  have S0 : Hid (Stand w0 w b nv l w) := Stand.first hlw
  obtain ⟨D, hD⟩ : ∃ D : ByteArray, Hid ((⟨(blk2 c).toArray⟩ : ByteArray) = D) := ⟨_, (rfl : (⟨(blk2 c).toArray⟩ : ByteArray) = ⟨(blk2 c).toArray⟩)⟩
  have HE : Hid (catL [D] = blk2 c) := by rw [← hD.out]; exact catL_one _
  rw [← HE.out] at hlen ⊢
  have HZ : Hid (l.length + (catL [D]).length ≤ 100000000000000) := hlen
  have cR : Hid (∀ W, Calls Tryz.prog 80 #[.string ⟨#[32, 32]⟩, .int .i64 (c : Int)] W fun e w' => e = .returned (.string D) ∧ Below W.heap.size W w') := fun W => by
    rw [← hD.out, ← blk2_repeat]
    exact Tryz.strings_Repeat ⟨#[32, 32]⟩ c W (by omega) (by show 2 * c ≤ _; omega)
  clear hlen hlw hB0
  go_enter Tryz.func57, Tryz.ntmps57
  go_wp2_with fail
  go_at_call 80
  refine Calls.mono (cR.out _) ?_
  rintro e w1 ⟨rfl, hb1⟩
  have S1 : Hid (Stand w0 w b nv l w1) := S0.out.next hz hb1
  clear hb1
  go_wp2_with fail
  go_at_call 49
  refine Calls.mono (S1.out.texts hz [D] 1 rfl (by omega) HZ.out rfl) ?_
  rintro e w2 ⟨rfl, s2⟩
  have S2 : Hid (Wrote w0.heap.size b nv (l ++ catL [D]) w (.returned (.tuple #[])) w2) := s2.wrote hz (Below.refl _ _)
  clear s2
  go_wp2
  go_returns
  exact S2.out

set_option maxRecDepth 100000 in
theorem lwLine_of (nv : Value) (b c : Nat) (w0 : World) (hc : c ≤ 21) (X : ByteArray) : Writes Tryz.prog 59 #[.pointer (some ⟨b, 0, none⟩), .int .i64 (c : Int), .string X] w0 b nv (blk2 c ++ catL [X, ⟨#[10]⟩]) := by
  intro l w hB0 hlw hlen
  have HB : Hid (Below w0.heap.size w0 w) := hB0
  have hz : w0.heap.size ≤ w.heap.size := hB0.size
  have S0 : Hid (Stand w0 w b nv l w) := Stand.first hlw
  have HZ : Hid (l.length + (blk2 c).length ≤ 100000000000000 ∧ (l ++ blk2 c).length + (catL [X, ⟨#[10]⟩]).length ≤ 100000000000000) := len2 hlen
  have cB : Hid (Writes Tryz.prog 57 #[.pointer (some ⟨b, 0, none⟩), .int .i64 (c : Int)] w0 b nv (blk2 c)) := lwBegin_of nv b c w0 hc
  have HL : Hid (l ++ (blk2 c ++ catL [X, ⟨#[10]⟩]) = l ++ blk2 c ++ catL [X, ⟨#[10]⟩]) := by show _ = _; rw [List.append_assoc]
  rw [HL.out]
  clear hlen hlw hB0
  go_enter Tryz.func59, Tryz.ntmps59
  go_wp2_with fail
  go_at_call 57
  refine Calls.mono (S0.out.call HB.out cB.out HZ.out.1) ?_
  rintro e w1 ⟨rfl, s1⟩
  have S1 : Hid (Stand w0 w b nv (l ++ blk2 c) w1) := s1
  clear s1
  go_wp2_with fail
  go_at_call 49
  refine Calls.mono (S1.out.texts hz [X, ⟨#[10]⟩] 2 rfl (by omega) HZ.out.2 rfl) ?_
  rintro e w2 ⟨rfl, s2⟩
  have S2 : Hid (Wrote w0.heap.size b nv (l ++ blk2 c ++ catL [X, ⟨#[10]⟩]) w (.returned (.tuple #[])) w2) := s2.wrote hz (Below.refl _ _)
  clear s2
  go_wp2
  go_returns
  exact S2.out

/-- How a statement begins. -/
def aheadT (kd : Int) (tx : ByteArray) : List ByteArray :=
  if kd = 13 then [⟨#[108, 101, 116, 32]⟩, tx, ⟨#[32, 61, 32]⟩]
  else if kd = 14 then [tx, ⟨#[32, 61, 32]⟩]
  else if kd = 15 then [⟨#[42]⟩, tx, ⟨#[32, 61, 32]⟩]
  else if kd = 16 then [⟨#[105, 102, 32]⟩]
  else if kd = 17 then [⟨#[119, 104, 105, 108, 101, 32]⟩]
  else if kd = 18 then [⟨#[112, 114, 105, 110, 116, 32]⟩]
  else [⟨#[100, 111, 32]⟩]

set_option maxRecDepth 100000 in
set_option maxHeartbeats 1600000 in
theorem lwAhead_of (nv : Value) (b K kc : Nat) (ka : Option Addr) (w0 : World) (kd nm : Int) (tx : ByteArray) (hk : 13 ≤ kd ∧ kd ≤ 19) :
    Writes Tryz.prog 58 #[.pointer (some ⟨b, 0, none⟩), .agg #[.int .i64 kd, .int .i64 nm, .string tx, .slice ka K kc]] w0 b nv (catL (aheadT kd tx)) := by
  intro l w hB0 hlw hlen
  have hz : w0.heap.size ≤ w.heap.size := hB0.size
  have HA : Hid (Laid w0 w b nv l #[.int .i64 kd, .int .i64 nm, .string tx, .slice ka K kc] 46 (w.alloc (.cells #[.int .i64 kd, .int .i64 nm, .string tx, .slice ka K kc] 46))) := Laid.make hB0 hlw _ _
  have HZ0 : Hid (l.length + (catL (aheadT kd tx)).length ≤ 100000000000000) := hlen
  clear hB0 hlw hlen
  have hcase : kd = 13 ∨ kd = 14 ∨ kd = 15 ∨ kd = 16 ∨ kd = 17 ∨ kd = 18 ∨ kd = 19 := by omega
  rcases hcase with rfl | rfl | rfl | rfl | rfl | rfl | rfl
  · have HZ : Hid (l.length + (catL [⟨#[108, 101, 116, 32]⟩, tx, ⟨#[32, 61, 32]⟩]).length ≤ 100000000000000) := HZ0.out
    show Calls _ _ _ _ (Wrote w0.heap.size b nv (l ++ catL [⟨#[108, 101, 116, 32]⟩, tx, ⟨#[32, 61, 32]⟩]) w)
    go_enter Tryz.func58, Tryz.ntmps58
    go_wp2_with fail
    go_at_call 49
    refine Calls.mono (HA.out.stand.texts HA.out.size [⟨#[108, 101, 116, 32]⟩, tx, ⟨#[32, 61, 32]⟩] 3 rfl (by omega) HZ.out (by simp)) ?_
    rintro e w2 ⟨rfl, s2⟩
    have S2 : Hid (Wrote w0.heap.size b nv (l ++ catL [⟨#[108, 101, 116, 32]⟩, tx, ⟨#[32, 61, 32]⟩]) w (.returned (.tuple #[])) w2) := s2.wrote hz HA.out.up
    clear s2
    go_wp2
    go_returns
    exact S2.out
  · have HZ : Hid (l.length + (catL [tx, ⟨#[32, 61, 32]⟩]).length ≤ 100000000000000) := HZ0.out
    show Calls _ _ _ _ (Wrote w0.heap.size b nv (l ++ catL [tx, ⟨#[32, 61, 32]⟩]) w)
    go_enter Tryz.func58, Tryz.ntmps58
    go_wp2_with fail
    go_at_call 49
    refine Calls.mono (HA.out.stand.texts HA.out.size [tx, ⟨#[32, 61, 32]⟩] 2 rfl (by omega) HZ.out (by simp)) ?_
    rintro e w2 ⟨rfl, s2⟩
    have S2 : Hid (Wrote w0.heap.size b nv (l ++ catL [tx, ⟨#[32, 61, 32]⟩]) w (.returned (.tuple #[])) w2) := s2.wrote hz HA.out.up
    clear s2
    go_wp2
    go_returns
    exact S2.out
  · have HZ : Hid (l.length + (catL [⟨#[42]⟩, tx, ⟨#[32, 61, 32]⟩]).length ≤ 100000000000000) := HZ0.out
    show Calls _ _ _ _ (Wrote w0.heap.size b nv (l ++ catL [⟨#[42]⟩, tx, ⟨#[32, 61, 32]⟩]) w)
    go_enter Tryz.func58, Tryz.ntmps58
    go_wp2_with fail
    go_at_call 49
    refine Calls.mono (HA.out.stand.texts HA.out.size [⟨#[42]⟩, tx, ⟨#[32, 61, 32]⟩] 3 rfl (by omega) HZ.out (by simp)) ?_
    rintro e w2 ⟨rfl, s2⟩
    have S2 : Hid (Wrote w0.heap.size b nv (l ++ catL [⟨#[42]⟩, tx, ⟨#[32, 61, 32]⟩]) w (.returned (.tuple #[])) w2) := s2.wrote hz HA.out.up
    clear s2
    go_wp2
    go_returns
    exact S2.out
  · have HZ : Hid (l.length + (catL [⟨#[105, 102, 32]⟩]).length ≤ 100000000000000) := HZ0.out
    show Calls _ _ _ _ (Wrote w0.heap.size b nv (l ++ catL [⟨#[105, 102, 32]⟩]) w)
    go_enter Tryz.func58, Tryz.ntmps58
    go_wp2_with fail
    go_at_call 49
    refine Calls.mono (HA.out.stand.texts HA.out.size [⟨#[105, 102, 32]⟩] 1 rfl (by omega) HZ.out (by simp)) ?_
    rintro e w2 ⟨rfl, s2⟩
    have S2 : Hid (Wrote w0.heap.size b nv (l ++ catL [⟨#[105, 102, 32]⟩]) w (.returned (.tuple #[])) w2) := s2.wrote hz HA.out.up
    clear s2
    go_wp2
    go_returns
    exact S2.out
  · have HZ : Hid (l.length + (catL [⟨#[119, 104, 105, 108, 101, 32]⟩]).length ≤ 100000000000000) := HZ0.out
    show Calls _ _ _ _ (Wrote w0.heap.size b nv (l ++ catL [⟨#[119, 104, 105, 108, 101, 32]⟩]) w)
    go_enter Tryz.func58, Tryz.ntmps58
    go_wp2_with fail
    go_at_call 49
    refine Calls.mono (HA.out.stand.texts HA.out.size [⟨#[119, 104, 105, 108, 101, 32]⟩] 1 rfl (by omega) HZ.out (by simp)) ?_
    rintro e w2 ⟨rfl, s2⟩
    have S2 : Hid (Wrote w0.heap.size b nv (l ++ catL [⟨#[119, 104, 105, 108, 101, 32]⟩]) w (.returned (.tuple #[])) w2) := s2.wrote hz HA.out.up
    clear s2
    go_wp2
    go_returns
    exact S2.out
  · have HZ : Hid (l.length + (catL [⟨#[112, 114, 105, 110, 116, 32]⟩]).length ≤ 100000000000000) := HZ0.out
    show Calls _ _ _ _ (Wrote w0.heap.size b nv (l ++ catL [⟨#[112, 114, 105, 110, 116, 32]⟩]) w)
    go_enter Tryz.func58, Tryz.ntmps58
    go_wp2_with fail
    go_at_call 49
    refine Calls.mono (HA.out.stand.texts HA.out.size [⟨#[112, 114, 105, 110, 116, 32]⟩] 1 rfl (by omega) HZ.out (by simp)) ?_
    rintro e w2 ⟨rfl, s2⟩
    have S2 : Hid (Wrote w0.heap.size b nv (l ++ catL [⟨#[112, 114, 105, 110, 116, 32]⟩]) w (.returned (.tuple #[])) w2) := s2.wrote hz HA.out.up
    clear s2
    go_wp2
    go_returns
    exact S2.out
  · have HZ : Hid (l.length + (catL [⟨#[100, 111, 32]⟩]).length ≤ 100000000000000) := HZ0.out
    show Calls _ _ _ _ (Wrote w0.heap.size b nv (l ++ catL [⟨#[100, 111, 32]⟩]) w)
    go_enter Tryz.func58, Tryz.ntmps58
    go_wp2_with fail
    go_at_call 49
    refine Calls.mono (HA.out.stand.texts HA.out.size [⟨#[100, 111, 32]⟩] 1 rfl (by omega) HZ.out (by simp)) ?_
    rintro e w2 ⟨rfl, s2⟩
    have S2 : Hid (Wrote w0.heap.size b nv (l ++ catL [⟨#[100, 111, 32]⟩]) w (.returned (.tuple #[])) w2) := s2.wrote hz HA.out.up
    clear s2
    go_wp2
    go_returns
    exact S2.out

set_option maxRecDepth 100000 in
set_option maxHeartbeats 1600000 in
theorem lwSteps_of (va : Option Addr) (N nc b c i : Nat) (ns : List Nd) (w0 : World) (nv : Value) (HNV : Hid (nv = .slice va N nc)) (HN : Hid (ns.length = N)) (hc : c < N) (HR : Hid (NdR.Row w0 w0.heap.size (.slice va N nc) ns)) (hk12 : (ns.getD c nd0).kids.length ≤ 12)
    (cS : Hid (∀ e ∈ (ns.getD c nd0).kids, Writes Tryz.prog 31 #[.pointer (some ⟨b, 0, none⟩), .int .i64 e, .int .i64 (i : Int)] w0 b nv (stepL ns e (i : Int)))) :
    Writes Tryz.prog 60 #[.pointer (some ⟨b, 0, none⟩), .int .i64 (c : Int), .int .i64 (i : Int)] w0 b nv (blkL ns (stepL ns) (c : Int) (i : Int)) := by
  intro l w hB0 hlw hlen
  have HB : Hid (Below w0.heap.size w0 w) := hB0
  have hz : w0.heap.size ≤ w.heap.size := hB0.size
  have hcl : c < ns.length := by rw [HN.out]; exact hc
  obtain ⟨nb, off, ka, kc, rfl, hb, _, _, _, e3, hK⟩ := RowNd.at HR.out c hcl
  obtain ⟨ks, hks⟩ : ∃ ks, Hid (ns[c].kids = ks) := ⟨_, (rfl : ns[c].kids = ns[c].kids)⟩
  have HKS : Hid ((ns.getD c nd0).kids = ks) := by show _ = _; rw [← hks.out]; simp [List.getD, hcl]
  rw [hks.out] at e3 hK
  rw [HKS.out] at cS hk12
  obtain ⟨K, HK⟩ : ∃ K, Hid (ks.length = K) := ⟨_, (rfl : ks.length = ks.length)⟩
  rw [HK.out] at e3 hK hk12
  have HI : Hid (RowI w0 w0.heap.size (.slice ka K kc) ks) := hK
  have HE : Hid (blkL ns (stepL ns) (c : Int) (i : Int) = stepsTo (stepL ns) ks (i : Int) K) := by
    show _ = _
    unfold blkL
    rw [Int.toNat_natCast, HKS.out, HK.out]
  rw [HE.out] at hlen ⊢
  have HZ : Hid (l.length + (stepsTo (stepL ns) ks (i : Int) K).length ≤ 100000000000000) := hlen
  have hc0 : (0 : Int) ≤ (c : Int) := by omega
  have hc1 : (c : Int) < (N : Int) := by omega
  have f3 := (hB0.cell (p := ⟨nb, off + c * 4 + 3, none⟩) hb).trans e3
  have n0 := hlw.nodes
  rw [HNV.out] at n0
  have S0 : Hid (Stand w0 w b nv (l ++ stepsTo (stepL ns) ks (i : Int) 0) w) := by show Stand _ _ _ _ _ _; simp only [stepsTo, List.append_nil]; exact Stand.first hlw
  clear hK e3 hB0 hlw hlen
  go_enter Tryz.func60, Tryz.ntmps60
  go_wp2
  go_loopw [17] (fun j wr => ∃ t : Nat, t ≤ K ∧ j = .int .i64 (t : Int) ∧ Hid (Stand w0 w b nv (l ++ stepsTo (stepL ns) ks (i : Int) t) wr)) (fun j _ => K - (intOf j).toNat)
  case atStart => exact ⟨0, Nat.zero_le _, rfl, S0⟩
  case round =>
    obtain ⟨t, ht, rfl, HS⟩ := hrel
    clear f3 n0
    by_cases hlt : t < K
    · have ht0 : (0 : Int) ≤ (t : Int) := by omega
      have ht1 : (t : Int) < (K : Int) := by omega
      have htl : t < ks.length := by rw [HK.out]; exact hlt
      obtain ⟨kb, ko, rfl, hkb, t0⟩ := HI.out.at t htl
      obtain ⟨e, he⟩ : ∃ e, Hid (ks[t] = e) := ⟨_, (rfl : ks[t] = ks[t])⟩
      have f0 := ((HB.out.trans HS.out.2.1).cell (p := ⟨kb, ko + t, none⟩) (by show kb < _; omega)).trans t0
      rw [he.out] at f0
      have hem : e ∈ ks := by rw [← he.out]; exact List.getElem_mem htl
      have HE2 : Hid (l ++ stepsTo (stepL ns) ks (i : Int) (t + 1) = l ++ stepsTo (stepL ns) ks (i : Int) t ++ stepL ns e (i : Int)) := by
        show _ = _
        simp only [stepsTo, getD_at htl, he.out, List.append_assoc]
      have HZ2 : Hid ((l ++ stepsTo (stepL ns) ks (i : Int) t).length + (stepL ns e (i : Int)).length ≤ 100000000000000) := by
        show _ ≤ _
        have h1 := congrArg List.length HE2.out
        have h2 := stepsTo_mono (stepL ns) ks (i : Int) (t + 1) K (by omega)
        have h3 := HZ.out
        simp only [List.length_append] at h1 ⊢
        omega
      clear t0
      go_wp2_with fail
      go_at_call 31
      refine Calls.mono (HS.out.call HB.out (cS.out e hem) HZ2.out) ?_
      rintro e' w2 ⟨rfl, s2⟩
      have S2 : Hid (Stand w0 w b nv (l ++ stepsTo (stepL ns) ks (i : Int) (t + 1)) w2) := by rw [HE2.out]; exact s2
      clear s2
      go_wp2
      go_roundw
      case rel => exact ⟨t + 1, by omega, by go_num, S2⟩
      case measure => simp [intOf]; omega
    · have htK : t = K := by omega
      subst htK
      go_wp2
      go_returns
      exact HS.out.wrote hz (Below.refl _ _)

end Go.Proofs.YtancoijbcobafaaGreatDoor

namespace Go.Proofs.YtancoijbcobafaaGreatDoor
open Go.RowKit

/-- Blocks, with a line between. -/
def sepTo (E : List UInt8) (g : Nat → List UInt8) : Nat → List UInt8
  | 0 => []
  | n + 1 => sepTo E g n ++ (if n = 0 then [] else E) ++ g n
theorem sepTo_mono (E : List UInt8) (g : Nat → List UInt8) (t K : Nat) (h : t ≤ K) : (sepTo E g t).length ≤ (sepTo E g K).length := by
  induction K with
  | zero =>
    have : t = 0 := by omega
    subst this
    omega
  | succ K ih =>
    rcases Nat.lt_or_ge t (K + 1) with h1 | h1
    · have := ih (by omega)
      simp only [sepTo, List.length_append]
      omega
    · have : t = K + 1 := by omega
      subst this
      omega
theorem inL_blk2 (i : Nat) : inL (i : Int) = blk2 (min i 20) := by unfold inL blk2; rw [Int.toNat_natCast]

set_option maxRecDepth 100000 in
set_option maxHeartbeats 6400000 in
theorem lwStep_any (va : Option Addr) (N nc m b : Nat) (ns : List Nd) (w0 : World) (nv : Value) (HNV : Hid (nv = .slice va N nc)) (HN : Hid (ns.length = N)) (hN9 : N < 1000000000) (hm : m < N) (HD : Hid (deepOf ns (m : Int) ≠ 0)) (HR : Hid (NdR.Row w0 w0.heap.size (.slice va N nc) ns)) (HT : Hid (Tab10 w0)) :
    ∀ k : Nat, k ≤ m → isStm (ns.getD k nd0).kind = true → ∀ i : Nat, i ≤ 21 → Writes Tryz.prog 31 #[.pointer (some ⟨b, 0, none⟩), .int .i64 (k : Int), .int .i64 (i : Int)] w0 b nv (stepL ns (k : Int) (i : Int)) := by
  intro k
  induction k using Nat.strongRecOn with
  | _ k ih =>
  intro hk hs i hi l w hB0 hlw hlen
  have hml : m < ns.length := by rw [HN.out]; exact hm
  have hkl : k < ns.length := by rw [HN.out]; omega
  have HSK := stmKids (deep_nodes hml HD.out k hk) hs
  have HB : Hid (stepL ns (k : Int) (i : Int) = stepBody ns (stepL ns) (ns.getD k nd0) (i : Int)) := stepL_body hml HD.out hk hs _
  obtain ⟨vn, hvn, hvk, hvv, _⟩ := step_val hml HD.out hk hs
  obtain ⟨q, hq⟩ : ∃ q, Hid (min i 20 = q) := ⟨_, (rfl : min i 20 = min i 20)⟩
  have hq20 : q ≤ 20 := by rw [← hq.out]; omega
  have hqi : q = i ∨ (q = 20 ∧ 20 ≤ i) := by rw [← hq.out]; omega
  have HBlk : Hid (∀ t, t + 1 < (ns.getD k nd0).kids.length → Writes Tryz.prog 60 #[.pointer (some ⟨b, 0, none⟩), .int .i64 ((ns.getD k nd0).kids.getD (t + 1) 0), .int .i64 ((q : Int) + 1)] w0 b nv (blkL ns (stepL ns) ((ns.getD k nd0).kids.getD (t + 1) 0) (inNext (i : Int)))) := fun t hj => by
    obtain ⟨c, hce, hck, _, h12, hbe2⟩ := two_below hml HD.out hk (show 0 < t + 1 by omega) hs hj
    have h1 := lwSteps_of va N nc b c (q + 1) ns w0 nv HNV HN (by omega) HR h12 (fun e he => by
      obtain ⟨n, rfl, hn, hsn, _⟩ := hbe2 e he
      exact ih n (by omega) (by omega) hsn (q + 1) (by omega))
    have h2 : blkL ns (stepL ns) (c : Int) (inNext (i : Int)) = blkL ns (stepL ns) (c : Int) ((q + 1 : Nat) : Int) := by
      rw [show inNext (i : Int) = (i : Int) + 1 by unfold inNext; rw [if_neg (by omega)]]
      exact blkL_clamp hml HD.out (by rw [HN.out]; exact hN9) (by omega) (by omega) (by omega) (by omega) (by omega) (by omega)
    rw [hce, h2]
    have h3 : ((q + 1 : Nat) : Int) = (q : Int) + 1 := by omega
    rw [h3] at h1 ⊢
    exact h1
  clear ih
  have hk0 : (0 : Int) ≤ (k : Int) := by omega
  have hk1 : (k : Int) < (N : Int) := by omega
  have hz : w0.heap.size ≤ w.heap.size := hB0.size
  obtain ⟨nb, off, ka, kc, rfl, hb, e0, e1, e2, e3, hK⟩ := RowNd.at HR.out k hkl
  obtain ⟨x, hx⟩ : ∃ x, Hid (ns[k] = x) := ⟨_, (rfl : ns[k] = ns[k])⟩
  have HX : Hid (ns.getD k nd0 = x) := by show _ = _; rw [← hx.out]; simp [List.getD, hkl]
  rw [hx.out] at e0 e1 e2 e3 hK
  rw [HX.out] at HSK HB HBlk hvn
  obtain ⟨kd, nm, tx, ks⟩ := x
  simp only at e0 e1 e2 e3 hK HBlk hvn
  obtain ⟨hst, hsome, htwo, hthree, hone, _, _, hname⟩ := HSK
  simp only at hst hsome htwo hthree hone hname
  obtain ⟨K, HK⟩ : ∃ K, Hid (ks.length = K) := ⟨_, (rfl : ks.length = ks.length)⟩
  rw [HK.out] at e3 hK hsome htwo hthree hone
  have HI : Hid (RowI w0 w0.heap.size (.slice ka K kc) ks) := hK
  have h0l : 0 < ks.length := by rw [HK.out]; exact hsome
  have hK0 : (0 : Int) < (K : Int) := by omega
  obtain ⟨kb, ko, rfl, hkb, t0⟩ := HI.out.at 0 h0l
  have HK00 : Hid (ks[0] = (vn : Int)) := (getD_at h0l).symm.trans hvn
  rw [HK00.out, Nat.add_zero] at t0
  have HT0 : Hid (w0.cell? ⟨kb, ko, none⟩ = some (.int .i64 (vn : Int)) ∧ kb < w0.heap.size) := ⟨t0, hkb⟩
  have f0 := (hB0.cell (p := ⟨nb, off + k * 4, none⟩) hb).trans e0
  have f1 := (hB0.cell (p := ⟨nb, off + k * 4 + 1, none⟩) hb).trans e1
  have f2 := (hB0.cell (p := ⟨nb, off + k * 4 + 2, none⟩) hb).trans e2
  have f3 := (hB0.cell (p := ⟨nb, off + k * 4 + 3, none⟩) hb).trans e3
  have n0 := hlw.nodes
  rw [HNV.out] at n0
  have cV : Hid (Writes Tryz.prog 24 #[.pointer (some ⟨b, 0, none⟩), .int .i64 (vn : Int)] w0 b nv (valL ns (vn : Int))) := lwValue_any _ N nc m b ns w0 nv HNV HN hm HD HR HT vn (by omega) hvv
  have cB : Hid (Writes Tryz.prog 57 #[.pointer (some ⟨b, 0, none⟩), .int .i64 (q : Int)] w0 b nv (blk2 q)) := lwBegin_of nv b q w0 (by omega)
  have cA : Hid (Writes Tryz.prog 58 #[.pointer (some ⟨b, 0, none⟩), .agg #[.int .i64 kd, .int .i64 nm, .string tx, .slice (some ⟨kb, ko, none⟩) K kc]] w0 b nv (catL (aheadT kd tx))) := lwAhead_of nv b K kc _ w0 kd nm tx hst
  obtain ⟨R, HRR⟩ : ∃ R, Hid (stepL ns (k : Int) (i : Int) = R) := ⟨_, (rfl : stepL ns (k : Int) (i : Int) = stepL ns (k : Int) (i : Int))⟩
  rw [HRR.out] at HB hlen ⊢
  have HZ : Hid (l.length + R.length ≤ 100000000000000) := hlen
  have HA : Hid (Laid w0 w b nv l #[.int .i64 kd, .int .i64 nm, .string tx, .slice (some ⟨kb, ko, none⟩) K kc] 46 (w.alloc (.cells #[.int .i64 kd, .int .i64 nm, .string tx, .slice (some ⟨kb, ko, none⟩) K kc] 46))) := Laid.make hB0 hlw _ _
  have HI0 : Hid (inL (i : Int) = blk2 q) := by show _ = _; rw [inL_blk2, hq.out]
  obtain ⟨V, hV⟩ : ∃ V, Hid (valL ns (vn : Int) = V) := ⟨_, (rfl : valL ns (vn : Int) = valL ns (vn : Int))⟩
  obtain ⟨A, hA⟩ : ∃ V, Hid (catL (aheadT kd tx) = V) := ⟨_, (rfl : catL (aheadT kd tx) = catL (aheadT kd tx))⟩
  rw [hV.out] at cV
  rw [hA.out] at cA
  clear e0 e1 e2 e3 hK hlen hlw hB0 hx HRR t0
  have hmin : min (i : Int) 20 = (q : Int) := by rw [← hq.out]; omega
  have hkc : K ≤ kc := by have := HI.out.cap; rw [HK.out] at this; exact this.2
  obtain ⟨g, hg⟩ : ∃ g : Nat → List UInt8, Hid ((fun t => blkL ns (stepL ns) (ks.getD (t + 1) 0) (inNext (i : Int))) = g) := ⟨_, (rfl : (fun t => blkL ns (stepL ns) (ks.getD (t + 1) 0) (inNext (i : Int))) = _)⟩
  have HG : Hid (∀ t, t + 1 < K → Writes Tryz.prog 60 #[.pointer (some ⟨b, 0, none⟩), .int .i64 (ks.getD (t + 1) 0), .int .i64 ((q : Int) + 1)] w0 b nv (g t)) := fun t ht => by
    rw [← hg.out]
    exact HBlk.out t (by rw [HK.out]; exact ht)
  obtain ⟨E, hE⟩ : ∃ E, Hid (blk2 q ++ catL [⟨#[125, 32, 101, 108, 115, 101, 32, 123]⟩, ⟨#[10]⟩] = E) := ⟨_, (rfl : blk2 q ++ catL [⟨#[125, 32, 101, 108, 115, 101, 32, 123]⟩, ⟨#[10]⟩] = _)⟩
  obtain ⟨Z, hZ⟩ : ∃ E, Hid (blk2 q ++ catL [⟨#[125]⟩, ⟨#[10]⟩] = E) := ⟨_, (rfl : blk2 q ++ catL [⟨#[125]⟩, ⟨#[10]⟩] = _)⟩
  have cE : Hid (Writes Tryz.prog 59 #[.pointer (some ⟨b, 0, none⟩), .int .i64 (q : Int), .string ⟨#[125, 32, 101, 108, 115, 101, 32, 123]⟩] w0 b nv E) := by rw [← hE.out]; exact lwLine_of nv b q w0 (by omega) _
  have cZ : Hid (Writes Tryz.prog 59 #[.pointer (some ⟨b, 0, none⟩), .int .i64 (q : Int), .string ⟨#[125]⟩] w0 b nv Z) := by rw [← hZ.out]; exact lwLine_of nv b q w0 (by omega) _
  have HRX : Hid (∃ X : List UInt8, R = blk2 q ++ A ++ V ++ X ∧ (K = 1 → X = [59, 10]) ∧ (1 < K → X = [32, 123, 10] ++ sepTo E g (K - 1) ++ Z)) := by
    show ∃ X : List UInt8, _
    rw [HB.out, ← hA.out, ← hV.out, ← hE.out, ← hZ.out, ← hg.out]
    have hcase : kd = 16 ∨ kd = 17 ∨ (kd ≠ 16 ∧ kd ≠ 17) := by omega
    rcases hcase with rfl | rfl | ⟨h16, h17⟩
    · have hK3 := hthree rfl
      subst hK3
      refine ⟨[32, 123, 10] ++ sepTo (blk2 q ++ catL [⟨#[125, 32, 101, 108, 115, 101, 32, 123]⟩, ⟨#[10]⟩]) (fun t => blkL ns (stepL ns) (ks.getD (t + 1) 0) (inNext (i : Int))) 2 ++ (blk2 q ++ catL [⟨#[125]⟩, ⟨#[10]⟩]), ?_, fun h => by omega, fun _ => rfl⟩
      show stepBody ns (stepL ns) ⟨16, nm, tx, ks⟩ (i : Int) = _
      unfold stepBody
      simp only [HI0.out, hvn, aheadT, catL, sepTo]
      simp [catL]
    · have hK2 := htwo rfl
      subst hK2
      refine ⟨[32, 123, 10] ++ sepTo (blk2 q ++ catL [⟨#[125, 32, 101, 108, 115, 101, 32, 123]⟩, ⟨#[10]⟩]) (fun t => blkL ns (stepL ns) (ks.getD (t + 1) 0) (inNext (i : Int))) 1 ++ (blk2 q ++ catL [⟨#[125]⟩, ⟨#[10]⟩]), ?_, fun h => by omega, fun _ => rfl⟩
      show stepBody ns (stepL ns) ⟨17, nm, tx, ks⟩ (i : Int) = _
      unfold stepBody
      simp only [HI0.out, hvn, aheadT, catL, sepTo]
      simp [catL]
    · have hK1 := hone h16 h17
      subst hK1
      refine ⟨[59, 10], ?_, fun _ => rfl, fun h => by omega⟩
      have hc : kd = 13 ∨ kd = 14 ∨ kd = 15 ∨ kd = 18 ∨ kd = 19 := by omega
      rcases hc with rfl | rfl | rfl | rfl | rfl
      all_goals
        unfold stepBody
        simp only [HI0.out, hvn, aheadT]
        simp [catL]
  obtain ⟨X, hX, hX1, hX2⟩ := HRX.out
  have HXR : Hid (R = blk2 q ++ A ++ V ++ X ∧ (K = 1 → X = [59, 10]) ∧ (1 < K → X = [32, 123, 10] ++ sepTo E g (K - 1) ++ Z)) := ⟨hX, hX1, hX2⟩
  have HX2 : Hid (l.length + (blk2 q).length ≤ 100000000000000 ∧ (l ++ blk2 q).length + A.length ≤ 100000000000000 ∧ (l ++ blk2 q ++ A).length + V.length ≤ 100000000000000 ∧ (l ++ blk2 q ++ A ++ V).length + X.length ≤ 100000000000000) := by
    have := HZ.out
    rw [hX] at this
    simp only [List.length_append] at this
    show _ ∧ _
    simp only [List.length_append]
    omega
  clear hX hX1 hX2 HRX hvn
  go_enter Tryz.func31, Tryz.ntmps31
  go_wp2_with fail
  clear hmin
  go_at_call 57
  refine Calls.mono (HA.out.stand.call HA.out.base cB.out HX2.out.1) ?_
  rintro e w1 ⟨rfl, s1⟩
  have S1 : Hid (Stand w0 (w.alloc (.cells #[.int .i64 kd, .int .i64 nm, .string tx, .slice (some ⟨kb, ko, none⟩) K kc] 46)) b nv (l ++ blk2 q) w1) := s1
  have y0 : w1.cell? ⟨w.heap.size, 0, none⟩ = some (.int .i64 kd) := s1.cell HA.out.cell (by decide) (by decide) 0
  have y1 : w1.cell? ⟨w.heap.size, 1, none⟩ = some (.int .i64 nm) := s1.cell HA.out.cell (by decide) (by decide) 1
  have y2 : w1.cell? ⟨w.heap.size, 2, none⟩ = some (.string tx) := s1.cell HA.out.cell (by decide) (by decide) 2
  have y3 : w1.cell? ⟨w.heap.size, 3, none⟩ = some (.slice (some ⟨kb, ko, none⟩) K kc) := s1.cell HA.out.cell (by decide) (by decide) 3
  clear s1
  go_wp2_with fail
  go_at_call 58
  refine Calls.mono (S1.out.call HA.out.base cA.out HX2.out.2.1) ?_
  rintro e w2 ⟨rfl, s2⟩
  have S2 : Hid (Stand w0 (w.alloc (.cells #[.int .i64 kd, .int .i64 nm, .string tx, .slice (some ⟨kb, ko, none⟩) K kc] 46)) b nv (l ++ blk2 q ++ A) w2) := s2
  have x3 : w2.cell? ⟨w.heap.size, 3, none⟩ = some (.slice (some ⟨kb, ko, none⟩) K kc) := s2.cell HA.out.cell (by decide) (by decide) 3
  have x4 := ((HA.out.base.trans s2.2.1).cell (p := ⟨kb, ko, none⟩) HT0.out.2).trans HT0.out.1
  clear s2 y0 y1 y2 y3
  go_wp2_with fail
  go_at_call 24
  refine Calls.mono (S2.out.call HA.out.base cV.out HX2.out.2.2.1) ?_
  rintro e w3 ⟨rfl, s3⟩
  have S3 : Hid (Stand w0 (w.alloc (.cells #[.int .i64 kd, .int .i64 nm, .string tx, .slice (some ⟨kb, ko, none⟩) K kc] 46)) b nv (l ++ blk2 q ++ A ++ V) w3) := s3
  have z3 : w3.cell? ⟨w.heap.size, 3, none⟩ = some (.slice (some ⟨kb, ko, none⟩) K kc) := s3.cell HA.out.cell (by decide) (by decide) 3
  clear s3 x3 x4
  by_cases hK1 : K = 1
  · have HX1 : Hid (X = [59, 10]) := HXR.out.2.1 hK1
    rw [HX1.out] at HX2 HXR
    have HF : Hid (l ++ blk2 q ++ A ++ V ++ [59, 10] = l ++ R) := by show _ = _; rw [HXR.out.1]; simp only [List.append_assoc]
    subst hK1
    go_wp2_with fail
    all_goals
      go_at_call 49
      refine Calls.mono (S3.out.texts HA.out.size [⟨#[59, 10]⟩] 1 rfl (by omega) HX2.out.2.2.2 rfl) ?_
      rintro e w4 ⟨rfl, s4⟩
      have S4 : Hid (Wrote w0.heap.size b nv (l ++ R) w (.returned (.tuple #[])) w4) := by rw [← HF.out]; exact s4.wrote hz HA.out.up
      clear s4
      go_wp2
      go_returns
      exact S4.out
  · obtain ⟨M, rfl⟩ : ∃ M, K = M + 2 := ⟨K - 2, by omega⟩
    have HX1 : Hid (X = [32, 123, 10] ++ sepTo E g (M + 1) ++ Z) := HXR.out.2.2 (by omega)
    rw [HX1.out] at HX2
    have hkc1 : ¬ kc = 1 := by omega
    have HY : Hid ((l ++ blk2 q ++ A ++ V).length + ([32, 123, 10] : List UInt8).length ≤ 100000000000000 ∧ (l ++ blk2 q ++ A ++ V ++ [32, 123, 10]).length + (sepTo E g (M + 1)).length + Z.length ≤ 100000000000000) := by
      have := HX2.out.2.2.2
      simp only [List.length_append] at this
      show _ ∧ _
      simp only [List.length_append]
      omega
    have HF : Hid (l ++ blk2 q ++ A ++ V ++ [32, 123, 10] ++ sepTo E g (M + 1) ++ Z = l ++ R) := by show _ = _; rw [HXR.out.1, HX1.out]; simp only [List.append_assoc]
    obtain ⟨l1, hl1⟩ : ∃ l1, Hid (l ++ blk2 q ++ A ++ V ++ [32, 123, 10] = l1) := ⟨_, (rfl : l ++ blk2 q ++ A ++ V ++ [32, 123, 10] = _)⟩
    rw [hl1.out] at HY HF
    go_wp2_with fail
    go_at_call 49
    refine Calls.mono (S3.out.texts HA.out.size [⟨#[32, 123, 10]⟩] 1 rfl (by omega) HY.out.1 rfl) ?_
    rintro e w4 ⟨rfl, s4⟩
    have S4 : Hid (Stand w0 (w.alloc (.cells #[.int .i64 kd, .int .i64 nm, .string tx, .slice (some ⟨kb, ko, none⟩) (M + 2) kc] 46)) b nv (l1 ++ sepTo E g 0) w4) := by
      show Stand _ _ _ _ _ _
      simp only [sepTo, List.append_nil]
      rw [← hl1.out]
      exact s4
    clear s4
    go_wp2
    generalize w.alloc (.cells #[.int .i64 kd, .int .i64 nm, .string tx, .slice (some ⟨kb, ko, none⟩) (M + 2) kc] 46) = a at HA S1 S2 S3 S4
    clear z3 S1 S2 S3 cB cA cV
    go_loopw [46] (fun j wr => ∃ t : Nat, t ≤ M + 1 ∧ j = .int .i64 (t : Int) ∧ Hid (Stand w0 a b nv (l1 ++ sepTo E g t) wr)) (fun j _ => M + 1 - (intOf j).toNat)
    case atStart => exact ⟨0, Nat.zero_le _, rfl, S4⟩
    case round =>
      obtain ⟨t, ht, rfl, HS⟩ := hrel
      by_cases hlt : t < M + 1
      · have ht0 : (0 : Int) ≤ (t : Int) := by omega
        have ht1 : (t : Int) < (M : Int) + 1 := by omega
        have ht2 : t < M + 1 := hlt
        have htl : t + 1 < ks.length := by rw [HK.out]; omega
        obtain ⟨kb', ko', heq, hkb', t0⟩ := HI.out.at (t + 1) htl
        obtain ⟨rfl, rfl⟩ : kb = kb' ∧ ko = ko' := by
          simp only [Option.some.injEq, Addr.mk.injEq] at heq
          exact ⟨heq.1, heq.2.1⟩
        obtain ⟨c, hc⟩ : ∃ c, Hid (ks.getD (t + 1) 0 = c) := ⟨_, (rfl : ks.getD (t + 1) 0 = _)⟩
        have f9 : wr.cell? ⟨kb, ko + 1 + t, none⟩ = some (.int .i64 c) := by
          rw [← hc.out, getD_at htl, show ko + 1 + t = ko + (t + 1) by omega]
          exact ((HA.out.base.trans HS.out.2.1).cell (p := ⟨kb, ko + (t + 1), none⟩) hkb').trans t0
        have cG : Hid (Writes Tryz.prog 60 #[.pointer (some ⟨b, 0, none⟩), .int .i64 c, .int .i64 ((q : Int) + 1)] w0 b nv (g t)) := by rw [← hc.out]; exact HG.out t (by omega)
        clear t0 heq
        by_cases htz : t = 0
        · subst htz
          have HE2 : Hid (l1 ++ sepTo E g (0 + 1) = l1 ++ sepTo E g 0 ++ g 0) := by
            show _ = _
            simp only [sepTo, if_true, List.append_nil, List.nil_append]
          have HZ2 : Hid ((l1 ++ sepTo E g 0).length + (g 0).length ≤ 100000000000000) := by
            show _ ≤ _
            have h1 := congrArg List.length HE2.out
            have h2 := sepTo_mono E g (0 + 1) (M + 1) (by omega)
            have h3 := HY.out.2
            simp only [List.length_append] at h1 h3 ⊢
            omega
          rw [Nat.add_zero] at f9
          have ht3 : (0 : Int) < (M : Int) + 1 := by omega
          go_wp2_with fail
          go_at_call 60
          refine Calls.mono (HS.out.call HA.out.base cG.out HZ2.out) ?_
          rintro e w5 ⟨rfl, s5⟩
          have S5 : Hid (Stand w0 a b nv (l1 ++ sepTo E g (0 + 1)) w5) := by rw [HE2.out]; exact s5
          clear s5
          go_wp2
          go_roundw
          case rel => exact ⟨0 + 1, by omega, by go_num, S5⟩
          case measure => simp [intOf]
        · have htp : (0 : Int) < (t : Int) := by omega
          have HE2 : Hid (l1 ++ sepTo E g (t + 1) = l1 ++ sepTo E g t ++ E ++ g t) := by
            show _ = _
            simp only [sepTo, if_neg htz, List.append_assoc]
          have HZ2 : Hid ((l1 ++ sepTo E g t).length + E.length ≤ 100000000000000 ∧ (l1 ++ sepTo E g t ++ E).length + (g t).length ≤ 100000000000000) := by
            show _ ∧ _
            have h1 := congrArg List.length HE2.out
            have h2 := sepTo_mono E g (t + 1) (M + 1) (by omega)
            have h3 := HY.out.2
            simp only [List.length_append] at h1 h3 ⊢
            omega
          go_wp2_with fail
          go_at_call 59
          refine Calls.mono (HS.out.call HA.out.base cE.out HZ2.out.1) ?_
          rintro e w5 ⟨rfl, s5⟩
          have S5 : Hid (Stand w0 a b nv (l1 ++ sepTo E g t ++ E) w5) := s5
          clear s5
          go_wp2_with fail
          go_at_call 60
          refine Calls.mono (S5.out.call HA.out.base cG.out HZ2.out.2) ?_
          rintro e w6 ⟨rfl, s6⟩
          have S6 : Hid (Stand w0 a b nv (l1 ++ sepTo E g (t + 1)) w6) := by rw [HE2.out]; exact s6
          clear s6
          go_wp2
          go_roundw
          case rel => exact ⟨t + 1, by omega, by go_num, S6⟩
          case measure => simp [intOf]; omega
      · have htM : t = M + 1 := by omega
        subst htM
        have hnl : ¬ ((M : Int) + 1 < (M : Int) + 1) := by omega
        have HZ3 : Hid ((l1 ++ sepTo E g (M + 1)).length + Z.length ≤ 100000000000000) := by
          have h3 := HY.out.2
          show _ ≤ _
          simp only [List.length_append] at h3 ⊢
          omega
        go_wp2_with fail
        go_at_call 59
        refine Calls.mono (HS.out.call HA.out.base cZ.out HZ3.out) ?_
        rintro e w5 ⟨rfl, s5⟩
        have S5 : Hid (Wrote w0.heap.size b nv (l ++ R) w (.returned (.tuple #[])) w5) := by rw [← HF.out]; exact s5.wrote hz HA.out.up
        clear s5
        go_wp2
        go_returns
        exact S5.out

end Go.Proofs.YtancoijbcobafaaGreatDoor

namespace Go.Proofs.YtancoijbcobafaaGreatDoor
open Go.RowKit

/-- The texts of types. -/
def types5 : List ByteArray := [⟨#[]⟩, ⟨#[105, 110, 116]⟩, ⟨#[98, 111, 120]⟩, ⟨#[38, 98, 111, 120]⟩, ⟨#[38, 109, 117, 116, 32, 98, 111, 120]⟩]
/-- .. lie as the program's text lays them. -/
def TypesOk (w : World) : Prop := ∀ i, i < 5 → w.cell? ⟨0, i, none⟩ = some (.string (types5.getD i ByteArray.empty))
theorem TypesOk.below {w w1 : World} (h : TypesOk w) (hb : Below w.heap.size w w1) : TypesOk w1 := fun i hi =>
  (hb.cell (p := ⟨0, i, none⟩) (World.block_lt_of_cell? w _ (h i hi))).trans (h i hi)
def DoorS (w : World) : Prop := Tab10 w ∧ TypesOk w
theorem DoorS.below {w w1 : World} (h : DoorS w) (hb : Below w.heap.size w w1) : DoorS w1 := ⟨h.1.below hb, h.2.below hb⟩
theorem types5_tyL (t : Nat) (h1 : 1 ≤ t) (h4 : t ≤ 4) : (types5.getD t ByteArray.empty).data.toList = tyL (t : Int) := by
  have : t = 1 ∨ t = 2 ∨ t = 3 ∨ t = 4 := by omega
  rcases this with rfl | rfl | rfl | rfl <;> rfl
theorem fn_types {p : Pg} (h : programOk p = true) {i : Nat} (hi : i < p.fns.length) : (∀ q ∈ (p.fns.getD i fc0).params, 1 ≤ q.ty ∧ q.ty ≤ 4) ∧ 0 ≤ (p.fns.getD i fc0).res ∧ (p.fns.getD i fc0).res ≤ 2 := by
  unfold programOk at h
  simp only [Bool.and_eq_true] at h
  have h1 := fnsTo_at h.1.2 i hi
  show (∀ q ∈ (p.fns.getD i ⟨ByteArray.empty, [], 0, 0, 0⟩).params, 1 ≤ q.ty ∧ q.ty ≤ 4) ∧ 0 ≤ (p.fns.getD i ⟨ByteArray.empty, [], 0, 0, 0⟩).res ∧ (p.fns.getD i ⟨ByteArray.empty, [], 0, 0, 0⟩).res ≤ 2
  generalize p.fns.getD i ⟨ByteArray.empty, [], 0, 0, 0⟩ = f at h1 ⊢
  unfold fnOk endsOkB at h1
  simp only [Bool.and_eq_true, decide_eq_true_eq] at h1
  obtain ⟨⟨⟨a1, _⟩, a3, a4⟩, ⟨a5, a6⟩, a7⟩ := h1
  refine ⟨fun q hq => ?_, ?_⟩
  · have := List.all_eq_true.mp a4 q hq
    unfold pmOk at this
    simp only [Bool.and_eq_true] at this
    simpa [isIn] using this.2
  · split at a7
    · omega
    · split at a7
      · omega
      · cases a7

theorem Stand.trans {w0 a a' : World} {b : Nat} {nv : Value} {L L' : List UInt8} {W : World} (h : Stand w0 a b nv L a') (h' : Stand w0 a' b nv L' W) : Stand w0 a b nv L' W := ⟨h'.1, h.2.1.trans h'.2.1, h.2.2.trans h'.2.2⟩
/-- Texts written at once, in a statement whose order is drawn. -/
theorem Stand.textsD {w0 a : World} {b : Nat} {nv : Value} {L : List UInt8} {W : World} (ha : w0.heap.size ≤ a.heap.size) (h : Stand w0 a b nv L W) (ss : List ByteArray) (n : Nat) (hn : ss.length = n) (h8 : n ≤ 8) (hl : L.length + (catL ss).length ≤ 100000000000000) {g : Nat} (hg : W.heap.size = g) :
    Calls Tryz.prog 49 #[.pointer (some ⟨b, 0, none⟩), .slice (some ⟨g, 0, none⟩) n n] (W.alloc (.cells (ss.map Value.string).toArray 9)).drew fun e w' => e = .returned (.tuple #[]) ∧ Stand w0 a b nv (L ++ catL ss) w' := by
  subst hg
  have hs := (h.alloc ha (.cells (ss.map Value.string).toArray 9)).drew ha
  refine (lwWrite_any w0.heap.size b W.heap.size nv L ss n _ hs.1 hn (heap_alloc_new _ _) h8 hl (Nat.le_trans ha hs.2.1.size)).mono ?_
  rintro e w' ⟨rfl, h1, h2, h3⟩
  exact ⟨rfl, h1, hs.2.1.trans h2, hs.2.2.trans h3⟩
theorem catL3 (x : ByteArray) (y : ByteArray) (L : List UInt8) (h : y.data.toList = L) : catL [x, ⟨#[58, 32]⟩, y] = x.data.toList ++ [58, 32] ++ L := by
  subst h
  simp [catL]

set_option maxRecDepth 100000 in
set_option maxHeartbeats 6400000 in
theorem lwFn_of (va pa : Option Addr) (N nc m b P pc : Nat) (ns : List Nd) (w0 : World) (nv : Value) (HNV : Hid (nv = .slice va N nc)) (HN : Hid (ns.length = N)) (hN9 : N < 1000000000) (hm : m < N) (hmN : m + 1 = N) (HD : Hid (deepOf ns (m : Int) ≠ 0)) (HR : Hid (NdR.Row w0 w0.heap.size (.slice va N nc) ns)) (HT : Hid (DoorS w0))
    (fn : ByteArray) (fp : List Pm) (res body ret : Int) (HP : Hid (fp.length = P)) (HPR : Hid (PmR.Row w0 w0.heap.size (.slice pa P pc) fp)) (HFS : Hid (FnFacts ns ⟨fn, fp, res, body, ret⟩)) (HTY : Hid ((∀ q ∈ fp, 1 ≤ q.ty ∧ q.ty ≤ 4) ∧ 0 ≤ res ∧ res ≤ 2)) :
    Writes Tryz.prog 36 #[.pointer (some ⟨b, 0, none⟩), .agg #[.string fn, .slice pa P pc, .int .i64 res, .int .i64 body, .int .i64 ret]] w0 b nv (fnT ns ⟨fn, fp, res, body, ret⟩) := by
  intro l w hB0 hlw hlen
  have hz : w0.heap.size ≤ w.heap.size := hB0.size
  have HA : Hid (Laid w0 w b nv l #[.string fn, .slice pa P pc, .int .i64 res, .int .i64 body, .int .i64 ret] 65 (w.alloc (.cells #[.string fn, .slice pa P pc, .int .i64 res, .int .i64 body, .int .i64 ret] 65))) := Laid.make hB0 hlw _ _
  obtain ⟨R, HRR⟩ : ∃ R, Hid (fnT ns ⟨fn, fp, res, body, ret⟩ = R) := ⟨_, (rfl : fnT ns ⟨fn, fp, res, body, ret⟩ = _)⟩
  rw [HRR.out] at hlen ⊢
  have HZ : Hid (l.length + R.length ≤ 100000000000000) := hlen
  have hP3 : P ≤ 3 := by rw [← HP.out]; exact HFS.out.few
  have hbd : 0 ≤ body ∧ body < (ns.length : Int) ∧ (ns.getD body.toNat nd0).kind = 20 := HFS.out.body
  have hml : m < ns.length := by rw [HN.out]; exact hm
  obtain ⟨bn, rfl⟩ : ∃ bn : Nat, body = (bn : Int) := ⟨body.toNat, by omega⟩
  rw [Int.toNat_natCast] at hbd
  have hbm : bn ≤ m := by have := HN.out; omega
  obtain ⟨Q, hQ⟩ : ∃ Q, Hid (blkL ns (stepL ns) (bn : Int) 1 = Q) := ⟨_, (rfl : blkL ns (stepL ns) (bn : Int) 1 = _)⟩
  have cS : Hid (Writes Tryz.prog 60 #[.pointer (some ⟨b, 0, none⟩), .int .i64 (bn : Int), .int .i64 1] w0 b nv Q) := by
    rw [← hQ.out]
    obtain ⟨h12, hk⟩ := body_kids hml HD.out hbm hbd.2.2
    exact lwSteps_of va N nc b bn 1 ns w0 nv HNV HN (by omega) HR h12 (fun e he => by
      obtain ⟨n, rfl, hn, hs⟩ := hk e he
      exact lwStep_any va N nc m b ns w0 nv HNV HN hN9 hm HD HR HT.out.1 n (by omega) hs 1 (by omega))
  have cB : Hid (Writes Tryz.prog 57 #[.pointer (some ⟨b, 0, none⟩), .int .i64 1] w0 b nv (blk2 1)) := lwBegin_of nv b 1 w0 (by omega)
  have cZ : Hid (Writes Tryz.prog 59 #[.pointer (some ⟨b, 0, none⟩), .int .i64 0, .string ⟨#[125]⟩] w0 b nv [125, 10]) := lwLine_of nv b 0 w0 (by omega) ⟨#[125]⟩
  -- the pieces of the text
  obtain ⟨T, hT⟩ : ∃ T, Hid ([102, 110, 32] ++ fn.data.toList ++ [40] = T) := ⟨_, (rfl : [102, 110, 32] ++ fn.data.toList ++ [40] = _)⟩
  have HC : Hid (catL [⟨#[102, 110, 32]⟩, fn, ⟨#[40]⟩] = T) := by rw [← hT.out]; simp [catL, Hid]
  obtain ⟨Y, hY⟩ : ∃ Y, Hid (resL ⟨fn, fp, res, (bn : Int), ret⟩ = Y) := ⟨_, (rfl : resL ⟨fn, fp, res, (bn : Int), ret⟩ = _)⟩
  obtain ⟨X, hX⟩ : ∃ X, Hid (retL ns ⟨fn, fp, res, (bn : Int), ret⟩ = X) := ⟨_, (rfl : retL ns ⟨fn, fp, res, (bn : Int), ret⟩ = _)⟩
  have HF : Hid (l ++ T ++ parTo fp P ++ [41] ++ Y ++ [32, 123, 10] ++ Q ++ X ++ [125, 10] = l ++ R) := by
    show _ = _
    rw [← HRR.out]
    unfold fnT
    simp only [hT.out, hY.out, hX.out, hQ.out, HP.out, List.append_assoc]
  have HY2 : Hid (l.length + T.length + (parTo fp P).length + 1 + Y.length + 3 + Q.length + X.length + 2 ≤ 100000000000000) := by
    have h1 := congrArg List.length HF.out
    have h2 := HZ.out
    simp only [List.length_append, List.length_cons, List.length_nil] at h1 h2
    show _ ≤ _
    omega
  clear hlen hlw hB0 HRR
  go_enter Tryz.func36, Tryz.ntmps36
  go_wp2_with fail
  go_at_call 49
  refine Calls.mono (HA.out.stand.texts HA.out.size [⟨#[102, 110, 32]⟩, fn, ⟨#[40]⟩] 3 rfl (by omega) (by rw [HC.out]; have := HY2.out; omega) (by simp)) ?_
  rintro e w1 ⟨rfl, s1⟩
  rw [HC.out] at s1
  have S1 : Hid (Stand w0 (w.alloc (.cells #[.string fn, .slice pa P pc, .int .i64 res, .int .i64 (bn : Int), .int .i64 ret] 65)) b nv (l ++ T ++ parTo fp 0) w1) := by show Stand _ _ _ _ _ _; simp only [parTo, List.append_nil]; exact s1
  have y1 : w1.cell? ⟨w.heap.size, 1, none⟩ = some (.slice pa P pc) := s1.cell HA.out.cell (by decide) (by decide) 1
  clear s1
  generalize w.alloc (.cells #[.string fn, .slice pa P pc, .int .i64 res, .int .i64 (bn : Int), .int .i64 ret] 65) = a at HA S1
  go_wp2
  go_loopw [14] (fun j wr => ∃ u : Nat, u ≤ P ∧ j = .int .i64 (u : Int) ∧ Hid (Stand w0 a b nv (l ++ T ++ parTo fp u) wr)) (fun j _ => P - (intOf j).toNat)
  case atStart => exact ⟨0, Nat.zero_le _, rfl, S1⟩
  case round =>
    obtain ⟨u, hu, rfl, HS⟩ := hrel
    clear y1 S1
    by_cases hlt : u < P
    · have hu0 : (0 : Int) ≤ (u : Int) := by omega
      have hu1 : (u : Int) < (P : Int) := by omega
      have hupl : u < fp.length := by rw [HP.out]; exact hlt
      obtain ⟨pb, po, rfl, hpb, f0, f1⟩ := PmR.at HPR.out u hupl
      obtain ⟨x, hx⟩ : ∃ x, Hid (fp[u] = x) := ⟨_, (rfl : fp[u] = _)⟩
      have hxt : 1 ≤ x.ty ∧ x.ty ≤ 4 := by rw [← hx.out]; exact HTY.out.1 _ (List.getElem_mem hupl)
      rw [hx.out] at f0 f1
      have g0 := ((HA.out.base.trans HS.out.2.1).cell (p := ⟨pb, po + u * 2, none⟩) hpb).trans f0
      have g1 := ((HA.out.base.trans HS.out.2.1).cell (p := ⟨pb, po + u * 2 + 1, none⟩) hpb).trans f1
      obtain ⟨xn, xt⟩ := x
      simp only at g0 g1 hxt
      obtain ⟨tn, rfl⟩ : ∃ tn : Nat, xt = (tn : Int) := ⟨xt.toNat, by omega⟩
      have htn0 : (0 : Int) ≤ (tn : Int) := by omega
      have htn1 : (tn : Int) < 5 := by omega
      obtain ⟨tt, htt⟩ : ∃ tt, Hid (types5.getD tn ByteArray.empty = tt) := ⟨_, (rfl : types5.getD tn ByteArray.empty = _)⟩
      have HTT : Hid (tt.data.toList = tyL (tn : Int)) := by rw [← htt.out]; exact types5_tyL tn (by omega) (by omega)
      have HLY : Hid (Laid w0 wr b nv (l ++ T ++ parTo fp u) #[.string xn, .int .i64 (tn : Int)] 67 (wr.alloc (.cells #[.string xn, .int .i64 (tn : Int)] 67))) := Laid.make (HA.out.base.trans HS.out.2.1) HS.out.1 _ _
      have HUP : Hid (Stand w0 a b nv (l ++ T ++ parTo fp u) (wr.alloc (.cells #[.string xn, .int .i64 (tn : Int)] 67))) := HS.out.alloc HA.out.size _
      have HST : Hid (∀ L W, Stand w0 (wr.alloc (.cells #[.string xn, .int .i64 (tn : Int)] 67)) b nv L W → W.cell? ⟨wr.heap.size, 0, none⟩ = some (.string xn) ∧ W.cell? ⟨wr.heap.size, 1, none⟩ = some (.int .i64 (tn : Int)) ∧ W.cell? ⟨0, tn, none⟩ = some (.string tt)) := fun L W h =>
        ⟨h.cell HLY.out.cell (by decide) (by decide) 0, h.cell HLY.out.cell (by decide) (by decide) 1, by rw [← htt.out]; exact (HT.out.2.below (HLY.out.base.trans h.2.1)) tn (by omega)⟩
      clear f0 f1
      by_cases huz : u = 0
      · subst huz
        have HE2 : Hid (l ++ T ++ parTo fp (0 + 1) = l ++ T ++ parTo fp 0 ++ catL [xn, ⟨#[58, 32]⟩, tt]) := by
          show _ = _
          rw [catL3 xn tt _ HTT.out]
          simp only [parTo, pm_getD hupl, hx.out, if_true, List.append_nil, List.nil_append, List.append_assoc]
        have HZ2 : Hid ((l ++ T ++ parTo fp 0).length + (catL [xn, ⟨#[58, 32]⟩, tt]).length ≤ 100000000000000) := by
          show _ ≤ _
          have h1 := congrArg List.length HE2.out
          have h2 := parTo_mono fp (0 + 1) P (by omega)
          have h3 := HY2.out
          simp only [List.length_append] at h1 h3 ⊢
          omega
        simp only [Nat.zero_mul, Nat.add_zero] at g0 g1
        have hu3 : (0 : Int) < (P : Int) := by omega
        have h38 : 3 ≤ 8 := by omega
        go_wp2_with fail
        generalize wr.alloc (.cells #[.string xn, .int .i64 (tn : Int)] 67) = a' at HLY HUP HST ⊢
        have hyw : wr.heap.size < a'.heap.size := (Array.getElem?_eq_some_iff.1 HLY.out.cell).1
        generalize wr.heap.size = y at HLY HST hyw ⊢
        have D0 : Hid (Stand w0 a' b nv (l ++ T ++ parTo fp 0) a'.drew) := HLY.out.stand.drew HLY.out.size
        have D1 : Hid (Stand w0 a' b nv (l ++ T ++ parTo fp 0) (a'.alloc (.cells #[.string xn, .string ⟨#[58, 32]⟩, .string tt] 9)).drew) := (HLY.out.stand.alloc HLY.out.size _).drew HLY.out.size
        have cW : Hid (Calls Tryz.prog 49 #[.pointer (some ⟨b, 0, none⟩), .slice (some ⟨a'.heap.size, 0, none⟩) 3 3] (a'.alloc (.cells #[.string xn, .string ⟨#[58, 32]⟩, .string tt] 9)).drew fun e w' => e = .returned (.tuple #[]) ∧ Stand w0 a' b nv (l ++ T ++ parTo fp 0 ++ catL [xn, ⟨#[58, 32]⟩, tt]) w') := HLY.out.stand.textsD HLY.out.size [xn, ⟨#[58, 32]⟩, tt] 3 rfl h38 HZ2.out rfl
        go_region_held3 (fun W => W.cell? ⟨y, 0, none⟩ = some (.string xn) ∧ W.cell? ⟨y, 1, none⟩ = some (.int .i64 (tn : Int)) ∧ W.cell? ⟨0, tn, none⟩ = some (.string tt)) (first | exact HST.out _ _ s9 | exact HST.out _ _ D1.out | exact HST.out _ _ D0.out) ((go_at_call 49; refine Calls.mono cW.out ?_; rintro e w9 ⟨rfl, s9⟩))
        all_goals
          have S9 : Hid (Stand w0 a b nv (l ++ T ++ parTo fp (0 + 1)) w9) := by rw [HE2.out]; exact HUP.out.trans s9
          clear s9
          go_wp2
          go_roundw
          case rel => exact ⟨0 + 1, by omega, by go_num, S9⟩
          case measure => simp [intOf]; omega
      · have hup : (0 : Int) < (u : Int) := by omega
        have HE2 : Hid (l ++ T ++ parTo fp (u + 1) = l ++ T ++ parTo fp u ++ [44, 32] ++ catL [xn, ⟨#[58, 32]⟩, tt]) := by
          show _ = _
          rw [catL3 xn tt _ HTT.out]
          simp only [parTo, pm_getD hupl, hx.out, if_neg huz, List.append_assoc]
        have HZ2 : Hid ((l ++ T ++ parTo fp u).length + ([44, 32] : List UInt8).length ≤ 100000000000000 ∧ (l ++ T ++ parTo fp u ++ [44, 32]).length + (catL [xn, ⟨#[58, 32]⟩, tt]).length ≤ 100000000000000) := by
          show _ ∧ _
          have h1 := congrArg List.length HE2.out
          have h2 := parTo_mono fp (u + 1) P (by omega)
          have h3 := HY2.out
          simp only [List.length_append] at h1 h3 ⊢
          omega
        have h38 : 3 ≤ 8 := by omega
        go_wp2_with fail
        go_at_call 49
        refine Calls.mono (HLY.out.stand.texts HLY.out.size [⟨#[44, 32]⟩] 1 rfl (by omega) HZ2.out.1 (by simp)) ?_
        rintro e w5 ⟨rfl, s5⟩
        generalize wr.alloc (.cells #[.string xn, .int .i64 (tn : Int)] 67) = a' at HLY HUP HST s5
        have S5 : Hid (Stand w0 a' b nv (l ++ T ++ parTo fp u ++ [44, 32]) w5) := s5
        clear s5
        generalize wr.heap.size = y at HLY HST ⊢
        have D0 : Hid (Stand w0 a' b nv (l ++ T ++ parTo fp u ++ [44, 32]) w5.drew) := S5.out.drew HLY.out.size
        have D1 : Hid (Stand w0 a' b nv (l ++ T ++ parTo fp u ++ [44, 32]) (w5.alloc (.cells #[.string xn, .string ⟨#[58, 32]⟩, .string tt] 9)).drew) := (S5.out.alloc HLY.out.size _).drew HLY.out.size
        have cW : Hid (Calls Tryz.prog 49 #[.pointer (some ⟨b, 0, none⟩), .slice (some ⟨w5.heap.size, 0, none⟩) 3 3] (w5.alloc (.cells #[.string xn, .string ⟨#[58, 32]⟩, .string tt] 9)).drew fun e w' => e = .returned (.tuple #[]) ∧ Stand w0 a' b nv (l ++ T ++ parTo fp u ++ [44, 32] ++ catL [xn, ⟨#[58, 32]⟩, tt]) w') := S5.out.textsD HLY.out.size [xn, ⟨#[58, 32]⟩, tt] 3 rfl h38 HZ2.out.2 rfl
        go_wp2_with fail
        go_region_held3 (fun W => W.cell? ⟨y, 0, none⟩ = some (.string xn) ∧ W.cell? ⟨y, 1, none⟩ = some (.int .i64 (tn : Int)) ∧ W.cell? ⟨0, tn, none⟩ = some (.string tt)) (first | exact HST.out _ _ s9 | exact HST.out _ _ D1.out | exact HST.out _ _ D0.out) ((go_at_call 49; refine Calls.mono cW.out ?_; rintro e w9 ⟨rfl, s9⟩))
        all_goals
          have S9 : Hid (Stand w0 a b nv (l ++ T ++ parTo fp (u + 1)) w9) := by rw [HE2.out]; exact HUP.out.trans s9
          clear s9
          go_wp2
          go_roundw
          case rel => exact ⟨u + 1, by omega, by go_num, S9⟩
          case measure => simp [intOf]; omega
    · have huP : u = P := by omega
      subst huP
      have HZ3 : Hid ((l ++ T ++ parTo fp u).length + ([41] : List UInt8).length ≤ 100000000000000) := by
        have h3 := HY2.out
        show _ ≤ _
        simp only [List.length_append, List.length_cons, List.length_nil] at h3 ⊢
        omega
      have HC4 : Hid (∀ L W, Stand w0 a b nv L W → (W.cell? ⟨w.heap.size, 2, none⟩ = some (.int .i64 res) ∧ W.cell? ⟨w.heap.size, 3, none⟩ = some (.int .i64 (bn : Int))) ∧ W.cell? ⟨w.heap.size, 4, none⟩ = some (.int .i64 ret)) := fun L W h => ⟨⟨h.cell HA.out.cell (by decide) (by decide) 2, h.cell HA.out.cell (by decide) (by decide) 3⟩, h.cell HA.out.cell (by decide) (by decide) 4⟩
      go_wp2_with fail
      go_at_call 49
      refine Calls.mono (HS.out.texts HA.out.size [⟨#[41]⟩] 1 rfl (by omega) HZ3.out rfl) ?_
      rintro e w2 ⟨rfl, s2⟩
      have S2 : Hid (Stand w0 a b nv (l ++ T ++ parTo fp u ++ [41]) w2) := s2
      obtain ⟨⟨c2, _⟩, _⟩ := HC4.out _ _ s2
      clear s2
      by_cases hrz : res = 0
      · have hrt : ret = -1 := HFS.out.none hrz
        subst hrz hrt
        have HY0 : Hid (Y = []) := by rw [← hY.out]; exact rfl
        have HX0 : Hid (X = []) := by rw [← hX.out]; exact rfl
        rw [HY0.out, HX0.out] at HF HY2
        have HF2 : Hid (l ++ T ++ parTo fp u ++ [41] ++ [32, 123, 10] ++ Q ++ [125, 10] = l ++ R) := by show _ = _; rw [← HF.out]; simp only [List.append_nil]
        have HZ4 : Hid ((l ++ T ++ parTo fp u ++ [41]).length + ([32, 123, 10] : List UInt8).length ≤ 100000000000000 ∧ (l ++ T ++ parTo fp u ++ [41] ++ [32, 123, 10]).length + Q.length ≤ 100000000000000 ∧ (l ++ T ++ parTo fp u ++ [41] ++ [32, 123, 10] ++ Q).length + ([125, 10] : List UInt8).length ≤ 100000000000000) := by
          have h3 := HY2.out
          show _ ∧ _
          simp only [List.length_append, List.length_cons, List.length_nil] at h3 ⊢
          omega
        go_wp2_with fail
        go_at_call 49
        refine Calls.mono (S2.out.texts HA.out.size [⟨#[32, 123, 10]⟩] 1 rfl (by omega) HZ4.out.1 rfl) ?_
        rintro e w3 ⟨rfl, s3⟩
        have S3 : Hid (Stand w0 a b nv (l ++ T ++ parTo fp u ++ [41] ++ [32, 123, 10]) w3) := s3
        obtain ⟨⟨_, c3⟩, _⟩ := HC4.out _ _ s3
        clear s3 c2
        go_wp2_with fail
        go_at_call 60
        refine Calls.mono (S3.out.call HA.out.base cS.out HZ4.out.2.1) ?_
        rintro e w4 ⟨rfl, s4⟩
        have S4 : Hid (Stand w0 a b nv (l ++ T ++ parTo fp u ++ [41] ++ [32, 123, 10] ++ Q) w4) := s4
        obtain ⟨_, c4⟩ := HC4.out _ _ s4
        clear s4 c3
        go_wp2_with fail
        go_at_call 59
        refine Calls.mono (S4.out.call HA.out.base cZ.out HZ4.out.2.2) ?_
        rintro e w5 ⟨rfl, s5⟩
        have S5 : Hid (Wrote w0.heap.size b nv (l ++ R) w (.returned (.tuple #[])) w5) := by rw [← HF2.out]; exact s5.wrote hz HA.out.up
        clear s5
        go_wp2
        go_returns
        exact S5.out
      · have hrs : 0 ≤ ret ∧ ret < (ns.length : Int) ∧ isVal (ns.getD ret.toNat nd0).kind = true := HFS.out.some hrz
        obtain ⟨rn, rfl⟩ : ∃ rn : Nat, ret = (rn : Int) := ⟨ret.toNat, by omega⟩
        rw [Int.toNat_natCast] at hrs
        have hr0 : (0 : Int) ≤ (rn : Int) := by omega
        have hrr := HTY.out.2
        obtain ⟨tn, rfl⟩ : ∃ tn : Nat, res = (tn : Int) := ⟨res.toNat, by omega⟩
        have htn0 : (0 : Int) ≤ (tn : Int) := by omega
        have htn1 : (tn : Int) < 5 := by omega
        have hrne : ((tn : Int) == 0) = false := by simpa using hrz
        obtain ⟨tt, htt⟩ : ∃ tt, Hid (types5.getD tn ByteArray.empty = tt) := ⟨_, (rfl : types5.getD tn ByteArray.empty = _)⟩
        have HTT : Hid (tt.data.toList = tyL (tn : Int)) := by rw [← htt.out]; exact types5_tyL tn (by omega) (by omega)
        obtain ⟨V, hV⟩ : ∃ V, Hid (valL ns (rn : Int) = V) := ⟨_, (rfl : valL ns (rn : Int) = _)⟩
        have cV : Hid (Writes Tryz.prog 24 #[.pointer (some ⟨b, 0, none⟩), .int .i64 (rn : Int)] w0 b nv V) := by
          rw [← hV.out]
          exact lwValue_any va N nc m b ns w0 nv HNV HN hm HD HR HT.out.1 rn (by have := HN.out; omega) hrs.2.2
        have HY0 : Hid (Y = catL [⟨#[32, 45, 62, 32]⟩, tt]) := by
          show _ = _
          rw [← hY.out]
          unfold resL
          simp only [if_neg hrz]
          rw [← HTT.out]
          simp [catL]
        have HX0 : Hid (X = blk2 1 ++ [114, 101, 116, 32] ++ V ++ [59, 10]) := by
          show _ = _
          rw [← hX.out]
          unfold retL
          simp only [if_pos hr0]
          rw [hV.out]
          rfl
        rw [HY0.out, HX0.out] at HF HY2
        obtain ⟨l2, hl2⟩ : ∃ l2, Hid (l ++ T ++ parTo fp u ++ [41] ++ catL [⟨#[32, 45, 62, 32]⟩, tt] = l2) := ⟨_, (rfl : l ++ T ++ parTo fp u ++ [41] ++ catL [⟨#[32, 45, 62, 32]⟩, tt] = _)⟩
        have HF2 : Hid (l2 ++ [32, 123, 10] ++ Q ++ blk2 1 ++ [114, 101, 116, 32] ++ V ++ [59, 10] ++ [125, 10] = l ++ R) := by show _ = _; rw [← HF.out, ← hl2.out]; simp only [List.append_assoc]
        have HZ4 : Hid ((l ++ T ++ parTo fp u ++ [41]).length + (catL [⟨#[32, 45, 62, 32]⟩, tt]).length ≤ 100000000000000 ∧ l2.length + 3 + Q.length + (blk2 1).length + 4 + V.length + 2 + 2 ≤ 100000000000000) := by
          have h3 := HY2.out
          have h4 := congrArg List.length hl2.out
          show _ ∧ _
          simp only [List.length_append, List.length_cons, List.length_nil] at h3 h4 ⊢
          omega
        have c9 : w2.cell? ⟨0, tn, none⟩ = some (.string tt) := by rw [← htt.out]; exact (HT.out.2.below (HA.out.base.trans S2.out.2.1)) tn (by omega)
        have HZ5 : Hid (l2.length + ([32, 123, 10] : List UInt8).length ≤ 100000000000000 ∧ (l2 ++ [32, 123, 10]).length + Q.length ≤ 100000000000000 ∧ (l2 ++ [32, 123, 10] ++ Q).length + (blk2 1).length ≤ 100000000000000 ∧ (l2 ++ [32, 123, 10] ++ Q ++ blk2 1).length + ([114, 101, 116, 32] : List UInt8).length ≤ 100000000000000 ∧ (l2 ++ [32, 123, 10] ++ Q ++ blk2 1 ++ [114, 101, 116, 32]).length + V.length ≤ 100000000000000 ∧ (l2 ++ [32, 123, 10] ++ Q ++ blk2 1 ++ [114, 101, 116, 32] ++ V).length + ([59, 10] : List UInt8).length ≤ 100000000000000 ∧ (l2 ++ [32, 123, 10] ++ Q ++ blk2 1 ++ [114, 101, 116, 32] ++ V ++ [59, 10]).length + ([125, 10] : List UInt8).length ≤ 100000000000000) := by
          have h3 := HZ4.out.2
          show _ ∧ _
          simp only [List.length_append, List.length_cons, List.length_nil]
          omega
        go_wp2_with fail
        go_at_call 49
        refine Calls.mono (S2.out.texts HA.out.size [⟨#[32, 45, 62, 32]⟩, tt] 2 rfl (by omega) HZ4.out.1 rfl) ?_
        rintro e w3 ⟨rfl, s3⟩
        have S3 : Hid (Stand w0 a b nv l2 w3) := by rw [← hl2.out]; exact s3
        clear s3 c2 c9
        go_wp2_with fail
        go_at_call 49
        refine Calls.mono (S3.out.texts HA.out.size [⟨#[32, 123, 10]⟩] 1 rfl (by omega) HZ5.out.1 rfl) ?_
        rintro e w4 ⟨rfl, s4⟩
        have S4 : Hid (Stand w0 a b nv (l2 ++ [32, 123, 10]) w4) := s4
        obtain ⟨⟨_, c3⟩, _⟩ := HC4.out _ _ s4
        clear s4
        go_wp2_with fail
        go_at_call 60
        refine Calls.mono (S4.out.call HA.out.base cS.out HZ5.out.2.1) ?_
        rintro e w5 ⟨rfl, s5⟩
        have S5 : Hid (Stand w0 a b nv (l2 ++ [32, 123, 10] ++ Q) w5) := s5
        obtain ⟨_, c4⟩ := HC4.out _ _ s5
        clear s5 c3
        go_wp2_with fail
        go_at_call 57
        refine Calls.mono (S5.out.call HA.out.base cB.out HZ5.out.2.2.1) ?_
        rintro e w6 ⟨rfl, s6⟩
        have S6 : Hid (Stand w0 a b nv (l2 ++ [32, 123, 10] ++ Q ++ blk2 1) w6) := s6
        clear s6 c4
        go_wp2_with fail
        go_at_call 49
        refine Calls.mono (S6.out.texts HA.out.size [⟨#[114, 101, 116, 32]⟩] 1 rfl (by omega) HZ5.out.2.2.2.1 rfl) ?_
        rintro e w7 ⟨rfl, s7⟩
        have S7 : Hid (Stand w0 a b nv (l2 ++ [32, 123, 10] ++ Q ++ blk2 1 ++ [114, 101, 116, 32]) w7) := s7
        obtain ⟨_, c5⟩ := HC4.out _ _ s7
        clear s7
        go_wp2_with fail
        go_at_call 24
        refine Calls.mono (S7.out.call HA.out.base cV.out HZ5.out.2.2.2.2.1) ?_
        rintro e w8 ⟨rfl, s8⟩
        have S8 : Hid (Stand w0 a b nv (l2 ++ [32, 123, 10] ++ Q ++ blk2 1 ++ [114, 101, 116, 32] ++ V) w8) := s8
        clear s8 c5
        go_wp2_with fail
        go_at_call 49
        refine Calls.mono (S8.out.texts HA.out.size [⟨#[59, 10]⟩] 1 rfl (by omega) HZ5.out.2.2.2.2.2.1 rfl) ?_
        rintro e w9 ⟨rfl, s9⟩
        have S9 : Hid (Stand w0 a b nv (l2 ++ [32, 123, 10] ++ Q ++ blk2 1 ++ [114, 101, 116, 32] ++ V ++ [59, 10]) w9) := s9
        clear s9
        go_wp2_with fail
        go_at_call 59
        refine Calls.mono (S9.out.call HA.out.base cZ.out HZ5.out.2.2.2.2.2.2) ?_
        rintro e w10 ⟨rfl, s10⟩
        have S10 : Hid (Wrote w0.heap.size b nv (l ++ R) w (.returned (.tuple #[])) w10) := by rw [← HF2.out]; exact s10.wrote hz HA.out.up
        clear s10
        go_wp2
        go_returns
        exact S10.out

end Go.Proofs.YtancoijbcobafaaGreatDoor

namespace Go.Proofs.YtancoijbcobafaaGreatDoor
open Go.RowKit

set_option maxHeartbeats 800000 in
theorem l06In_any (n : Int) (w : World) : Calls Tryz.prog 56 #[.int .i64 n] w fun e w' => e = .returned (.string (txt (inL n))) ∧ w' = w := by
  go_enter Tryz.func56, Tryz.ntmps56
  go_wp2
  go_loop [3, 4] (fun s i => ∃ (t : Nat) (S : ByteArray), t ≤ 20 ∧ (t = 0 ∨ (t : Int) ≤ n) ∧ i = .int .i64 (t : Int) ∧ s = .string S ∧ Hid (S = txt (List.replicate (2 * t) 32))) (fun _ i => 20 - (intOf i).toNat)
  case atStart => exact ⟨0, _, by omega, .inl rfl, rfl, rfl, rfl⟩
  case round =>
    obtain ⟨t, S, ht, htn, rfl, rfl, HS⟩ := hrel
    have hSs : S.size ≤ 40 := by rw [HS.out, txt_size, List.length_replicate]; omega
    by_cases hlt : (t : Int) < n
    · by_cases h20 : (t : Int) < 20
      · have HN : Hid (S ++ ⟨#[32, 32]⟩ = txt (List.replicate (2 * (t + 1)) 32)) := by
          show _ = _
          rw [HS.out, show 2 * (t + 1) = 2 * t + 2 by omega, ← List.replicate_append_replicate, ← txt_append]
          rfl
        go_wp2
        go_round
        case rel => exact ⟨t + 1, _, by omega, .inr (by omega), by go_num, rfl, HN⟩
        case measure => simp [intOf]; omega
      · have HF : Hid (txt (inL n) = S) := by
          show _ = _
          rw [HS.out]
          unfold inL
          rw [show min n.toNat 20 = t by omega]
        go_wp2
        go_ret
        exact ⟨by rw [HF.out]; rfl, rfl⟩
    · have HF : Hid (txt (inL n) = S) := by
        show _ = _
        rw [HS.out]
        unfold inL
        rw [show min n.toNat 20 = t by omega]
      go_wp2
      go_ret
      exact ⟨by rw [HF.out]; rfl, rfl⟩

set_option maxRecDepth 100000 in
set_option maxHeartbeats 1600000 in
theorem l06Block_of (va : Option Addr) (N nc B c : Nat) (i : Int) (ns : List Nd) (HN : Hid (ns.length = N)) (hc : c < N) (w : World) (hB : B ≤ w.heap.size) (hR : NdR.Row w B (.slice va N nc) ns) (hk12 : (ns.getD c nd0).kids.length ≤ 12) (hl : Hid (∀ e ∈ (ns.getD c nd0).kids, (stepL ns e i).length ≤ 1000000000000000))
    (cS : Hid (∀ e ∈ (ns.getD c nd0).kids, ∀ W, Below w.heap.size w W → Calls Tryz.prog 29 #[.slice va N nc, .int .i64 e, .int .i64 i] W (Tells (stepL ns e i) W))) (L : List UInt8) (HL : Hid (blkL ns (stepL ns) (c : Int) i = L)) :
    Calls Tryz.prog 34 #[.slice va N nc, .int .i64 (c : Int), .int .i64 i] w (Tells L w) := by
  have hcl : c < ns.length := by rw [HN.out]; exact hc
  obtain ⟨b, off, ka, kc, rfl, hb, _, _, _, e3, hK⟩ := RowNd.at hR c hcl
  obtain ⟨ks, hks⟩ : ∃ ks, Hid (ns[c].kids = ks) := ⟨_, (rfl : ns[c].kids = ns[c].kids)⟩
  have HKS : Hid ((ns.getD c nd0).kids = ks) := by show _ = _; rw [← hks.out]; simp [List.getD, hcl]
  rw [hks.out] at e3 hK
  rw [HKS.out] at hl cS hk12
  obtain ⟨K, HK⟩ : ∃ K, Hid (ks.length = K) := ⟨_, (rfl : ks.length = ks.length)⟩
  rw [HK.out] at e3 hK hk12
  have HI : Hid (RowI w B (.slice ka K kc) ks) := hK
  have HE : Hid (L = stepsTo (stepL ns) ks i K) := by
    show _ = _
    rw [← HL.out]
    unfold blkL
    rw [Int.toNat_natCast, HKS.out, HK.out]
  have hc0 : (0 : Int) ≤ (c : Int) := by omega
  have hc1 : (c : Int) < (N : Int) := by omega
  have HC3 : Hid (w.cell? ⟨b, off + c * 4 + 3, none⟩ = some (.slice ka K kc)) := e3
  clear hR hK
  go_enter Tryz.func34, Tryz.ntmps34
  go_wp2
  go_loopw [7, 8] (fun s j wr => ∃ (t : Nat) (S : ByteArray), t ≤ K ∧ j = .int .i64 (t : Int) ∧ s = .string S ∧ Hid (S = txt (stepsTo (stepL ns) ks i t)) ∧ Hid (Below w.heap.size w wr)) (fun _ j _ => K - (intOf j).toNat)
  case atStart => exact ⟨0, _, Nat.zero_le _, rfl, rfl, rfl, Below.refl _ _⟩
  case round =>
    obtain ⟨t, S, ht, rfl, rfl, HS, HW⟩ := hrel
    have g3 := (HW.out.cell (p := ⟨b, off + c * 4 + 3, none⟩) (by show b < _; omega)).trans HC3.out
    have hSs : S.size ≤ 12000000000000000 := by
      rw [HS.out, txt_size]
      have h1 := stepsTo_len hl.out t (by rw [HK.out]; exact ht)
      have h2 : t * 1000000000000000 ≤ 12 * 1000000000000000 := Nat.mul_le_mul_right _ (by omega)
      omega
    clear e3
    by_cases hlt : t < K
    · have ht0 : (0 : Int) ≤ (t : Int) := by omega
      have ht1 : (t : Int) < (K : Int) := by omega
      have htl : t < ks.length := by rw [HK.out]; exact hlt
      obtain ⟨kb, ko, rfl, hkb, t0⟩ := HI.out.at t htl
      obtain ⟨e, he⟩ : ∃ e, Hid (ks[t] = e) := ⟨_, (rfl : ks[t] = ks[t])⟩
      have f0 := (HW.out.cell (p := ⟨kb, ko + t, none⟩) (by show kb < _; omega)).trans t0
      rw [he.out] at f0
      have hem : e ∈ ks := by rw [← he.out]; exact List.getElem_mem htl
      obtain ⟨P, hP⟩ : ∃ P, Hid (txt (stepL ns e i) = P) := ⟨_, (rfl : txt (stepL ns e i) = txt (stepL ns e i))⟩
      have hPs : P.size ≤ 1000000000000000 := by rw [← hP.out, txt_size]; exact hl.out e hem
      have cK : Hid (∀ W, Below w.heap.size w W → Calls Tryz.prog 29 #[.slice (some ⟨b, off, none⟩) N nc, .int .i64 e, .int .i64 i] W fun e' w' => e' = .returned (.string P) ∧ Below W.heap.size W w') := fun W hW => by rw [← hP.out]; exact cS.out e hem W hW
      have HNX : Hid (S ++ P = txt (stepsTo (stepL ns) ks i (t + 1))) := by
        show _ = _
        simp only [stepsTo, getD_at htl, he.out]
        rw [← txt_append, HS.out, hP.out]
      clear t0
      go_wp2_with (go_at_call 29; refine Calls.mono (cK.out _ HW.out) ?_; rintro e' w2 ⟨rfl, hb2⟩; have HW2 : Hid (Below w.heap.size w w2) := HW.out.trans (hb2.mono HW.out.size))
      go_roundw
      case rel => exact ⟨t + 1, _, by omega, by go_num, rfl, HNX, HW2⟩
      case measure => simp [intOf]; omega
    · have HF : Hid (txt L = S) := by show _ = _; rw [HE.out, HS.out, show t = K by omega]
      go_wp2
      go_ret
      exact ⟨by rw [HF.out]; rfl, HW.out⟩

/-- What a call of l06Step says. -/
def StepCall (P : Program) (va : Option Addr) (N nc B : Nat) (ns : List Nd) (k : Nat) : Prop := ∀ (i : Int) (w : World), -9223372036854775808 ≤ i → i ≤ 9223372036854775807 → B ≤ w.heap.size → NdR.Row w B (.slice va N nc) ns → Calls P 29 #[.slice va N nc, .int .i64 (k : Int), .int .i64 i] w (Tells (stepL ns (k : Int) i) w)
theorem inNext_wrap (i : Int) (h0 : -9223372036854775808 ≤ i) (h1 : i ≤ 9223372036854775807) : IntKind.i64.wrap (i + 1) = inNext i ∧ -9223372036854775808 ≤ inNext i ∧ inNext i ≤ 9223372036854775807 := by
  unfold inNext
  by_cases h : i = 9223372036854775807
  · subst h
    rw [if_pos rfl]
    exact ⟨by decide, by omega, by omega⟩
  · rw [if_neg h]
    exact ⟨IntWalk.i64_in _ ⟨by omega, by omega⟩, by omega, by omega⟩

set_option maxRecDepth 100000 in
set_option maxHeartbeats 6400000 in
theorem l06Step_any (va : Option Addr) (N nc m B : Nat) (ns : List Nd) (HN : Hid (ns.length = N)) (hm : m < N) (HD : Hid (deepOf ns (m : Int) ≠ 0)) :
    ∀ k : Nat, k ≤ m → isStm (ns.getD k nd0).kind = true → StepCall Tryz.prog va N nc B ns k := by
  intro k
  induction k using Nat.strongRecOn with
  | _ k ih =>
  intro hk hs i w hi0 hi1 hBw hR
  have hml : m < ns.length := by rw [HN.out]; exact hm
  have hkl : k < ns.length := by rw [HN.out]; omega
  have HSK := stmKids (deep_nodes hml HD.out k hk) hs
  have HB : Hid (stepL ns (k : Int) i = stepBody ns (stepL ns) (ns.getD k nd0) i) := stepL_body hml HD.out hk hs i
  obtain ⟨vn, hvn, hvk, hvv, hvl⟩ := step_val hml HD.out hk hs
  obtain ⟨hwr, hj0, hj1⟩ := inNext_wrap i hi0 hi1
  obtain ⟨J, HJ⟩ : ∃ J, Hid (inNext i = J) := ⟨_, (rfl : inNext i = inNext i)⟩
  rw [HJ.out] at hwr hj0 hj1
  have HR : Hid (NdR.Row w B (.slice va N nc) ns) := hR
  have HBlk : Hid (∀ j, 0 < j → j < (ns.getD k nd0).kids.length → (blkL ns (stepL ns) ((ns.getD k nd0).kids.getD j 0) J).length ≤ 12000000000000000 ∧ ∀ W, Below w.heap.size w W → Calls Tryz.prog 34 #[.slice va N nc, .int .i64 ((ns.getD k nd0).kids.getD j 0), .int .i64 J] W (Tells (blkL ns (stepL ns) ((ns.getD k nd0).kids.getD j 0) J) W)) := fun j h0 hj => by
    obtain ⟨b, hbe, hbk, _, h12, hbe2⟩ := two_below hml HD.out hk h0 hs hj
    rw [hbe]
    have hsm : ∀ e ∈ (ns.getD b nd0).kids, (stepL ns e J).length ≤ 1000000000000000 := fun e he => by
      obtain ⟨n, rfl, hn, hsn, _⟩ := hbe2 e he
      exact stepL_small hml HD.out n (by omega) hsn J
    refine ⟨?_, fun W hW => ?_⟩
    · unfold blkL
      rw [Int.toNat_natCast]
      exact Nat.le_trans (stepsTo_len hsm _ (Nat.le_refl _)) (Nat.mul_le_mul_right 1000000000000000 h12)
    · refine l06Block_of va N nc B b J ns HN (by omega) W (Nat.le_trans hBw hW.size) (HR.out.keep (hW.mono hBw)) h12 hsm (fun e he W' hW' => ?_) _ (rfl : blkL ns (stepL ns) (b : Int) J = _)
      obtain ⟨n, rfl, hn, hsn, _⟩ := hbe2 e he
      exact ih n (by omega) (by omega) hsn J W' hj0 hj1 (Nat.le_trans hBw (Nat.le_trans hW.size hW'.size)) ((HR.out.keep (hW.mono hBw)).keep (hW'.mono (Nat.le_trans hBw hW.size)))
  clear ih
  have hk0 : (0 : Int) ≤ (k : Int) := by omega
  have hk1 : (k : Int) < (N : Int) := by omega
  obtain ⟨b, off, ka, kc, rfl, hb, e0, e1, e2, e3, hK⟩ := RowNd.at hR k hkl
  obtain ⟨x, hx⟩ : ∃ x, Hid (ns[k] = x) := ⟨_, (rfl : ns[k] = ns[k])⟩
  have HX : Hid (ns.getD k nd0 = x) := by show _ = _; rw [← hx.out]; simp [List.getD, hkl]
  rw [hx.out] at e0 e1 e2 e3 hK
  rw [HX.out] at HSK HB HBlk hvn
  obtain ⟨kd, nm, tx, ks⟩ := x
  simp only at e0 e1 e2 e3 hK HBlk hvn
  obtain ⟨hst, hsome, htwo, hthree, hone, _, _, hname⟩ := HSK
  simp only at hst hsome htwo hthree hone hname
  obtain ⟨K, HK⟩ : ∃ K, Hid (ks.length = K) := ⟨_, (rfl : ks.length = ks.length)⟩
  rw [HK.out] at e3 hK hsome htwo hthree hone
  have HI : Hid (RowI w B (.slice ka K kc) ks) := hK
  have hbw : b < w.heap.size := by omega
  have htx : Hid (txt tx.data.toList = tx) := txt_data tx
  have h0l : 0 < ks.length := by rw [HK.out]; exact hsome
  have hK0 : (0 : Int) < (K : Int) := by omega
  obtain ⟨kb, ko, rfl, hkb, t0⟩ := HI.out.at 0 h0l
  have HK00 : Hid (ks[0] = (vn : Int)) := (getD_at h0l).symm.trans hvn
  rw [HK00.out, Nat.add_zero] at t0
  have hkw : kb < w.heap.size := by omega
  obtain ⟨V, hV⟩ : ∃ V, Hid (txt (valL ns (vn : Int)) = V) := ⟨_, (rfl : txt (valL ns (vn : Int)) = txt (valL ns (vn : Int)))⟩
  have hVs : V.size ≤ 30000000 := by rw [← hV.out, txt_size]; exact hvl
  have cV : Hid (∀ W, Below w.heap.size w W → Calls Tryz.prog 19 #[.slice (some ⟨b, off, none⟩) N nc, .int .i64 (vn : Int)] W fun e w' => e = .returned (.string V) ∧ Below W.heap.size W w') := fun W hW => by
    rw [← hV.out]
    exact l06Value_any _ N nc m B ns HN hm HD vn (by omega) hvv W (Nat.le_trans hBw hW.size) (HR.out.keep (hW.mono hBw))
  obtain ⟨I, hI⟩ : ∃ I, Hid (txt (inL i) = I) := ⟨_, (rfl : txt (inL i) = txt (inL i))⟩
  have hIs : I.size ≤ 40 := by rw [← hI.out, txt_size]; exact inL_len i
  have cI : Hid (∀ W, Calls Tryz.prog 56 #[.int .i64 i] W fun e w' => e = .returned (.string I) ∧ w' = W) := fun W => by rw [← hI.out]; exact l06In_any i W
  obtain ⟨R, HRR⟩ : ∃ R, Hid (stepL ns (k : Int) i = R) := ⟨_, (rfl : stepL ns (k : Int) i = stepL ns (k : Int) i)⟩
  rw [HRR.out] at HB ⊢
  have HV0 : Hid (ks.getD 0 0 = (vn : Int)) := hvn
  clear hR hK hvn
  have hcase : kd = 13 ∨ kd = 14 ∨ kd = 15 ∨ kd = 18 ∨ kd = 19 ∨ kd = 16 ∨ kd = 17 := by omega
  rcases hcase with rfl | rfl | rfl | rfl | rfl | rfl | rfl
  · have hK1 : K = 1 := hone (by decide) (by decide)
    subst hK1
    have HE : Hid (txt R = I ++ ⟨#[108, 101, 116, 32]⟩ ++ tx ++ ⟨#[32, 61, 32]⟩ ++ V ++ ⟨#[59, 10]⟩) := by
      show _ = _
      rw [HB.out]
      show txt (inL i ++ [108, 101, 116, 32] ++ tx.data.toList ++ [32, 61, 32] ++ valL ns (ks.getD 0 0) ++ [59, 10]) = _
      simp only [← txt_append]
      rw [HV0.out, hV.out, hI.out, htx.out]
      rfl
    have B0 : Hid (Box w (.cells #[.int .i64 13, .int .i64 nm, .string tx, .slice (some ⟨kb, ko, none⟩) 1 kc] 46) (w.alloc (.cells #[.int .i64 13, .int .i64 nm, .string tx, .slice (some ⟨kb, ko, none⟩) 1 kc] 46))) := Box.first _ _
    have hs0 : ¬ 9223372036854775807 < I.size + 4 := by omega
    have hs1 : ¬ 9223372036854775807 < I.size + 4 + tx.size := by omega
    have hs2 : ¬ 9223372036854775807 < I.size + 4 + tx.size + 3 := by omega
    have hs3 : ¬ 9223372036854775807 < I.size + 4 + tx.size + 3 + V.size := by omega
    have hs4 : ¬ 9223372036854775807 < I.size + 4 + tx.size + 3 + V.size + 2 := by omega
    have HS : Hid (∀ W, Box w (.cells #[.int .i64 13, .int .i64 nm, .string tx, .slice (some ⟨kb, ko, none⟩) 1 kc] 46) W → (W.cell? ⟨w.heap.size, 2, none⟩ = some (.string tx) ∧ W.cell? ⟨w.heap.size, 3, none⟩ = some (.slice (some ⟨kb, ko, none⟩) 1 kc)) ∧ W.cell? ⟨kb, ko, none⟩ = some (.int .i64 (vn : Int))) := fun W h => ⟨⟨h.cell 2, h.cell 3⟩, (h.below.cell (p := ⟨kb, ko, none⟩) hkw).trans t0⟩
    go_enter Tryz.func29, Tryz.ntmps29
    go_wp2_with (go_at_call 56; refine Calls.mono (cI.out _) ?_; rintro e wI ⟨rfl, hwI⟩; have hwI2 := hwI.symm; subst hwI2)
    go_region_held3 (fun w' => (w'.cell? ⟨w.heap.size, 2, none⟩ = some (.string tx) ∧ w'.cell? ⟨w.heap.size, 3, none⟩ = some (.slice (some ⟨kb, ko, none⟩) 1 kc)) ∧ w'.cell? ⟨kb, ko, none⟩ = some (.int .i64 (vn : Int))) (first | exact HS.out _ DA | exact HS.out _ B0.out.drew) ((go_at_call 19; refine Calls.mono (cV.out _ B0.out.drew.below) ?_; rintro e wA ⟨rfl, hbA⟩; have DA := B0.out.drew.next hbA))
    all_goals
      have HF : Hid (Below w.heap.size w wA) := DA.below
      clear DA hbA
      go_wp2
      go_ret
      exact ⟨by rw [HE.out]; rfl, HF.out⟩
  · have hK1 : K = 1 := hone (by decide) (by decide)
    subst hK1
    have HE : Hid (txt R = I ++ tx ++ ⟨#[32, 61, 32]⟩ ++ V ++ ⟨#[59, 10]⟩) := by
      show _ = _
      rw [HB.out]
      show txt (inL i ++ tx.data.toList ++ [32, 61, 32] ++ valL ns (ks.getD 0 0) ++ [59, 10]) = _
      simp only [← txt_append]
      rw [HV0.out, hV.out, hI.out, htx.out]
      rfl
    have B0 : Hid (Box w (.cells #[.int .i64 14, .int .i64 nm, .string tx, .slice (some ⟨kb, ko, none⟩) 1 kc] 46) (w.alloc (.cells #[.int .i64 14, .int .i64 nm, .string tx, .slice (some ⟨kb, ko, none⟩) 1 kc] 46))) := Box.first _ _
    have hs0 : ¬ 9223372036854775807 < I.size + tx.size := by omega
    have hs1 : ¬ 9223372036854775807 < I.size + tx.size + 3 := by omega
    have hs2 : ¬ 9223372036854775807 < I.size + tx.size + 3 + V.size := by omega
    have hs3 : ¬ 9223372036854775807 < I.size + tx.size + 3 + V.size + 2 := by omega
    have HS : Hid (∀ W, Box w (.cells #[.int .i64 14, .int .i64 nm, .string tx, .slice (some ⟨kb, ko, none⟩) 1 kc] 46) W → (W.cell? ⟨w.heap.size, 2, none⟩ = some (.string tx) ∧ W.cell? ⟨w.heap.size, 3, none⟩ = some (.slice (some ⟨kb, ko, none⟩) 1 kc)) ∧ W.cell? ⟨kb, ko, none⟩ = some (.int .i64 (vn : Int))) := fun W h => ⟨⟨h.cell 2, h.cell 3⟩, (h.below.cell (p := ⟨kb, ko, none⟩) hkw).trans t0⟩
    go_enter Tryz.func29, Tryz.ntmps29
    go_wp2_with (go_at_call 56; refine Calls.mono (cI.out _) ?_; rintro e wI ⟨rfl, hwI⟩; have hwI2 := hwI.symm; subst hwI2)
    go_region_held3 (fun w' => (w'.cell? ⟨w.heap.size, 2, none⟩ = some (.string tx) ∧ w'.cell? ⟨w.heap.size, 3, none⟩ = some (.slice (some ⟨kb, ko, none⟩) 1 kc)) ∧ w'.cell? ⟨kb, ko, none⟩ = some (.int .i64 (vn : Int))) (first | exact HS.out _ DA | exact HS.out _ B0.out.drew) ((go_at_call 19; refine Calls.mono (cV.out _ B0.out.drew.below) ?_; rintro e wA ⟨rfl, hbA⟩; have DA := B0.out.drew.next hbA))
    all_goals
      have HF : Hid (Below w.heap.size w wA) := DA.below
      clear DA hbA
      go_wp2
      go_ret
      exact ⟨by rw [HE.out]; rfl, HF.out⟩
  · have hK1 : K = 1 := hone (by decide) (by decide)
    subst hK1
    have HE : Hid (txt R = I ++ ⟨#[42]⟩ ++ tx ++ ⟨#[32, 61, 32]⟩ ++ V ++ ⟨#[59, 10]⟩) := by
      show _ = _
      rw [HB.out]
      show txt (inL i ++ [42] ++ tx.data.toList ++ [32, 61, 32] ++ valL ns (ks.getD 0 0) ++ [59, 10]) = _
      simp only [← txt_append]
      rw [HV0.out, hV.out, hI.out, htx.out]
      rfl
    have B0 : Hid (Box w (.cells #[.int .i64 15, .int .i64 nm, .string tx, .slice (some ⟨kb, ko, none⟩) 1 kc] 46) (w.alloc (.cells #[.int .i64 15, .int .i64 nm, .string tx, .slice (some ⟨kb, ko, none⟩) 1 kc] 46))) := Box.first _ _
    have hs0 : ¬ 9223372036854775807 < I.size + 1 := by omega
    have hs1 : ¬ 9223372036854775807 < I.size + 1 + tx.size := by omega
    have hs2 : ¬ 9223372036854775807 < I.size + 1 + tx.size + 3 := by omega
    have hs3 : ¬ 9223372036854775807 < I.size + 1 + tx.size + 3 + V.size := by omega
    have hs4 : ¬ 9223372036854775807 < I.size + 1 + tx.size + 3 + V.size + 2 := by omega
    have HS : Hid (∀ W, Box w (.cells #[.int .i64 15, .int .i64 nm, .string tx, .slice (some ⟨kb, ko, none⟩) 1 kc] 46) W → (W.cell? ⟨w.heap.size, 2, none⟩ = some (.string tx) ∧ W.cell? ⟨w.heap.size, 3, none⟩ = some (.slice (some ⟨kb, ko, none⟩) 1 kc)) ∧ W.cell? ⟨kb, ko, none⟩ = some (.int .i64 (vn : Int))) := fun W h => ⟨⟨h.cell 2, h.cell 3⟩, (h.below.cell (p := ⟨kb, ko, none⟩) hkw).trans t0⟩
    go_enter Tryz.func29, Tryz.ntmps29
    go_wp2_with (go_at_call 56; refine Calls.mono (cI.out _) ?_; rintro e wI ⟨rfl, hwI⟩; have hwI2 := hwI.symm; subst hwI2)
    go_region_held3 (fun w' => (w'.cell? ⟨w.heap.size, 2, none⟩ = some (.string tx) ∧ w'.cell? ⟨w.heap.size, 3, none⟩ = some (.slice (some ⟨kb, ko, none⟩) 1 kc)) ∧ w'.cell? ⟨kb, ko, none⟩ = some (.int .i64 (vn : Int))) (first | exact HS.out _ DA | exact HS.out _ B0.out.drew) ((go_at_call 19; refine Calls.mono (cV.out _ B0.out.drew.below) ?_; rintro e wA ⟨rfl, hbA⟩; have DA := B0.out.drew.next hbA))
    all_goals
      have HF : Hid (Below w.heap.size w wA) := DA.below
      clear DA hbA
      go_wp2
      go_ret
      exact ⟨by rw [HE.out]; rfl, HF.out⟩
  · have hK1 : K = 1 := hone (by decide) (by decide)
    subst hK1
    have HE : Hid (txt R = I ++ ⟨#[112, 114, 105, 110, 116, 32]⟩ ++ V ++ ⟨#[59, 10]⟩) := by
      show _ = _
      rw [HB.out]
      show txt (inL i ++ [112, 114, 105, 110, 116, 32] ++ valL ns (ks.getD 0 0) ++ [59, 10]) = _
      simp only [← txt_append]
      rw [HV0.out, hV.out, hI.out]
      rfl
    have B0 : Hid (Box w (.cells #[.int .i64 18, .int .i64 nm, .string tx, .slice (some ⟨kb, ko, none⟩) 1 kc] 46) (w.alloc (.cells #[.int .i64 18, .int .i64 nm, .string tx, .slice (some ⟨kb, ko, none⟩) 1 kc] 46))) := Box.first _ _
    have hs0 : ¬ 9223372036854775807 < I.size + 6 := by omega
    have hs1 : ¬ 9223372036854775807 < I.size + 6 + V.size := by omega
    have hs2 : ¬ 9223372036854775807 < I.size + 6 + V.size + 2 := by omega
    go_enter Tryz.func29, Tryz.ntmps29
    go_wp2_with (first | (go_at_call 56; refine Calls.mono (cI.out _) ?_; rintro e wI ⟨rfl, hwI⟩; have hwI2 := hwI.symm; subst hwI2) | (go_at_call 19; refine Calls.mono (cV.out _ B0.out.below) ?_; rintro e wA ⟨rfl, hbA⟩; have DA := B0.out.next hbA))
    go_ret
    exact ⟨by rw [HE.out]; rfl, DA.below⟩
  · have hK1 : K = 1 := hone (by decide) (by decide)
    subst hK1
    have HE : Hid (txt R = I ++ ⟨#[100, 111, 32]⟩ ++ V ++ ⟨#[59, 10]⟩) := by
      show _ = _
      rw [HB.out]
      show txt (inL i ++ [100, 111, 32] ++ valL ns (ks.getD 0 0) ++ [59, 10]) = _
      simp only [← txt_append]
      rw [HV0.out, hV.out, hI.out]
      rfl
    have B0 : Hid (Box w (.cells #[.int .i64 19, .int .i64 nm, .string tx, .slice (some ⟨kb, ko, none⟩) 1 kc] 46) (w.alloc (.cells #[.int .i64 19, .int .i64 nm, .string tx, .slice (some ⟨kb, ko, none⟩) 1 kc] 46))) := Box.first _ _
    have hs0 : ¬ 9223372036854775807 < I.size + 3 := by omega
    have hs1 : ¬ 9223372036854775807 < I.size + 3 + V.size := by omega
    have hs2 : ¬ 9223372036854775807 < I.size + 3 + V.size + 2 := by omega
    go_enter Tryz.func29, Tryz.ntmps29
    go_wp2_with (first | (go_at_call 56; refine Calls.mono (cI.out _) ?_; rintro e wI ⟨rfl, hwI⟩; have hwI2 := hwI.symm; subst hwI2) | (go_at_call 19; refine Calls.mono (cV.out _ B0.out.below) ?_; rintro e wA ⟨rfl, hbA⟩; have DA := B0.out.next hbA))
    go_ret
    exact ⟨by rw [HE.out]; rfl, DA.below⟩
  · have hKK : K = 3 := hthree rfl
    subst hKK
    have h1l : 1 < ks.length := by rw [HK.out]; omega
    obtain ⟨kb1, ko1, had1, _, t1⟩ := HI.out.at 1 h1l
    cases had1
    obtain ⟨c1, hc1⟩ : ∃ c, Hid (ks[1] = c) := ⟨_, (rfl : ks[1] = ks[1])⟩
    rw [hc1.out] at t1
    have HG1 : Hid (ks.getD 1 0 = c1) := by show _ = _; rw [getD_at h1l, hc1.out]
    obtain ⟨Q1, hQ1⟩ : ∃ P, Hid (txt (blkL ns (stepL ns) c1 J) = P) := ⟨_, (rfl : txt (blkL ns (stepL ns) c1 J) = txt (blkL ns (stepL ns) c1 J))⟩
    have hbk1 := HBlk.out 1 (by omega) h1l
    rw [HG1.out] at hbk1
    have hQs1 : Q1.size ≤ 12000000000000000 := by rw [← hQ1.out, txt_size]; exact hbk1.1
    have cB1 : Hid (∀ W, Below w.heap.size w W → Calls Tryz.prog 34 #[.slice (some ⟨b, off, none⟩) N nc, .int .i64 c1, .int .i64 J] W fun e w' => e = .returned (.string Q1) ∧ Below W.heap.size W w') := fun W hW => by rw [← hQ1.out]; exact hbk1.2 W hW
    clear hbk1
    have h2l : 2 < ks.length := by rw [HK.out]; omega
    obtain ⟨kb2, ko2, had2, _, t2⟩ := HI.out.at 2 h2l
    cases had2
    obtain ⟨c2, hc2⟩ : ∃ c, Hid (ks[2] = c) := ⟨_, (rfl : ks[2] = ks[2])⟩
    rw [hc2.out] at t2
    have HG2 : Hid (ks.getD 2 0 = c2) := by show _ = _; rw [getD_at h2l, hc2.out]
    obtain ⟨Q2, hQ2⟩ : ∃ P, Hid (txt (blkL ns (stepL ns) c2 J) = P) := ⟨_, (rfl : txt (blkL ns (stepL ns) c2 J) = txt (blkL ns (stepL ns) c2 J))⟩
    have hbk2 := HBlk.out 2 (by omega) h2l
    rw [HG2.out] at hbk2
    have hQs2 : Q2.size ≤ 12000000000000000 := by rw [← hQ2.out, txt_size]; exact hbk2.1
    have cB2 : Hid (∀ W, Below w.heap.size w W → Calls Tryz.prog 34 #[.slice (some ⟨b, off, none⟩) N nc, .int .i64 c2, .int .i64 J] W fun e w' => e = .returned (.string Q2) ∧ Below W.heap.size W w') := fun W hW => by rw [← hQ2.out]; exact hbk2.2 W hW
    clear hbk2
    have HE : Hid (txt R = I ++ ⟨#[105, 102, 32]⟩ ++ V ++ ⟨#[32, 123, 10]⟩ ++ Q1 ++ I ++ ⟨#[125, 32, 101, 108, 115, 101, 32, 123, 10]⟩ ++ Q2 ++ I ++ ⟨#[125, 10]⟩) := by
      show _ = _
      rw [HB.out]
      show txt (inL i ++ [105, 102, 32] ++ valL ns (ks.getD 0 0) ++ [32, 123, 10] ++ blkL ns (stepL ns) (ks.getD 1 0) (inNext i) ++ inL i ++ [125, 32, 101, 108, 115, 101, 32, 123, 10] ++ blkL ns (stepL ns) (ks.getD 2 0) (inNext i) ++ inL i ++ [125, 10]) = _
      simp only [← txt_append]
      rw [HV0.out, hV.out, hI.out, HJ.out, HG1.out, hQ1.out, HG2.out, hQ2.out]
      rfl
    have B0 : Hid (Box w (.cells #[.int .i64 16, .int .i64 nm, .string tx, .slice (some ⟨kb, ko, none⟩) 3 kc] 46) (w.alloc (.cells #[.int .i64 16, .int .i64 nm, .string tx, .slice (some ⟨kb, ko, none⟩) 3 kc] 46))) := Box.first _ _
    have hs0 : ¬ 9223372036854775807 < I.size + 3 := by omega
    have hs1 : ¬ 9223372036854775807 < I.size + 3 + V.size := by omega
    have hs2 : ¬ 9223372036854775807 < I.size + 3 + V.size + 3 := by omega
    have hs3 : ¬ 9223372036854775807 < I.size + 3 + V.size + 3 + Q1.size := by omega
    have hs4 : ¬ 9223372036854775807 < I.size + 3 + V.size + 3 + Q1.size + I.size := by omega
    have hs5 : ¬ 9223372036854775807 < I.size + 3 + V.size + 3 + Q1.size + I.size + 9 := by omega
    have hs6 : ¬ 9223372036854775807 < I.size + 3 + V.size + 3 + Q1.size + I.size + 9 + Q2.size := by omega
    have hs7 : ¬ 9223372036854775807 < I.size + 3 + V.size + 3 + Q1.size + I.size + 9 + Q2.size + I.size := by omega
    have hs8 : ¬ 9223372036854775807 < I.size + 3 + V.size + 3 + Q1.size + I.size + 9 + Q2.size + I.size + 2 := by omega
    have HS : Hid (∀ W, Box w (.cells #[.int .i64 16, .int .i64 nm, .string tx, .slice (some ⟨kb, ko, none⟩) 3 kc] 46) W → W.cell? ⟨w.heap.size, 3, none⟩ = some (.slice (some ⟨kb, ko, none⟩) 3 kc) ∧ W.cell? ⟨kb, ko, none⟩ = some (.int .i64 (vn : Int)) ∧ W.cell? ⟨kb, ko + 1, none⟩ = some (.int .i64 c1) ∧ W.cell? ⟨kb, ko + 2, none⟩ = some (.int .i64 c2)) := fun W h => ⟨h.cell 3, (h.below.cell (p := ⟨kb, ko, none⟩) hkw).trans t0, (h.below.cell (p := ⟨kb, ko + 1, none⟩) hkw).trans t1, (h.below.cell (p := ⟨kb, ko + 2, none⟩) hkw).trans t2⟩
    clear hs htwo hthree hone
    go_enter Tryz.func29, Tryz.ntmps29
    go_wp2_with (go_at_call 56; refine Calls.mono (cI.out _) ?_; rintro e wI ⟨rfl, hwI⟩; have hwI2 := hwI.symm; subst hwI2)
    go_region_held3 (fun W => W.cell? ⟨w.heap.size, 3, none⟩ = some (.slice (some ⟨kb, ko, none⟩) 3 kc) ∧ W.cell? ⟨kb, ko, none⟩ = some (.int .i64 (vn : Int)) ∧ W.cell? ⟨kb, ko + 1, none⟩ = some (.int .i64 c1) ∧ W.cell? ⟨kb, ko + 2, none⟩ = some (.int .i64 c2)) (first | exact HS.out _ DD | exact HS.out _ DB | exact HS.out _ DA | exact HS.out _ B0.out.drew) (first | (have _z := DB; go_at_call 34; refine Calls.mono (cB2.out _ DB.below) ?_; rintro e wD ⟨rfl, hbD⟩; have DD := DB.next hbD) | (have _z := DA; go_at_call 34; refine Calls.mono (cB1.out _ DA.below) ?_; rintro e wB ⟨rfl, hbB⟩; have DB := DA.next hbB) | (go_at_call 19; refine Calls.mono (cV.out _ B0.out.drew.below) ?_; rintro e wA ⟨rfl, hbA⟩; have DA := B0.out.drew.next hbA))
    all_goals
      have HF : Hid (Below w.heap.size w wD) := DD.below
      clear DA DB hbA hbB DD hbD
      go_wp2
      go_ret
      exact ⟨by rw [HE.out]; rfl, HF.out⟩
  · have hKK : K = 2 := htwo rfl
    subst hKK
    have h1l : 1 < ks.length := by rw [HK.out]; omega
    obtain ⟨kb1, ko1, had1, _, t1⟩ := HI.out.at 1 h1l
    cases had1
    obtain ⟨c1, hc1⟩ : ∃ c, Hid (ks[1] = c) := ⟨_, (rfl : ks[1] = ks[1])⟩
    rw [hc1.out] at t1
    have HG1 : Hid (ks.getD 1 0 = c1) := by show _ = _; rw [getD_at h1l, hc1.out]
    obtain ⟨Q1, hQ1⟩ : ∃ P, Hid (txt (blkL ns (stepL ns) c1 J) = P) := ⟨_, (rfl : txt (blkL ns (stepL ns) c1 J) = txt (blkL ns (stepL ns) c1 J))⟩
    have hbk1 := HBlk.out 1 (by omega) h1l
    rw [HG1.out] at hbk1
    have hQs1 : Q1.size ≤ 12000000000000000 := by rw [← hQ1.out, txt_size]; exact hbk1.1
    have cB1 : Hid (∀ W, Below w.heap.size w W → Calls Tryz.prog 34 #[.slice (some ⟨b, off, none⟩) N nc, .int .i64 c1, .int .i64 J] W fun e w' => e = .returned (.string Q1) ∧ Below W.heap.size W w') := fun W hW => by rw [← hQ1.out]; exact hbk1.2 W hW
    clear hbk1
    have HE : Hid (txt R = I ++ ⟨#[119, 104, 105, 108, 101, 32]⟩ ++ V ++ ⟨#[32, 123, 10]⟩ ++ Q1 ++ I ++ ⟨#[125, 10]⟩) := by
      show _ = _
      rw [HB.out]
      show txt (inL i ++ [119, 104, 105, 108, 101, 32] ++ valL ns (ks.getD 0 0) ++ [32, 123, 10] ++ blkL ns (stepL ns) (ks.getD 1 0) (inNext i) ++ inL i ++ [125, 10]) = _
      simp only [← txt_append]
      rw [HV0.out, hV.out, hI.out, HJ.out, HG1.out, hQ1.out]
      rfl
    have B0 : Hid (Box w (.cells #[.int .i64 17, .int .i64 nm, .string tx, .slice (some ⟨kb, ko, none⟩) 2 kc] 46) (w.alloc (.cells #[.int .i64 17, .int .i64 nm, .string tx, .slice (some ⟨kb, ko, none⟩) 2 kc] 46))) := Box.first _ _
    have hs0 : ¬ 9223372036854775807 < I.size + 6 := by omega
    have hs1 : ¬ 9223372036854775807 < I.size + 6 + V.size := by omega
    have hs2 : ¬ 9223372036854775807 < I.size + 6 + V.size + 3 := by omega
    have hs3 : ¬ 9223372036854775807 < I.size + 6 + V.size + 3 + Q1.size := by omega
    have hs4 : ¬ 9223372036854775807 < I.size + 6 + V.size + 3 + Q1.size + I.size := by omega
    have hs5 : ¬ 9223372036854775807 < I.size + 6 + V.size + 3 + Q1.size + I.size + 2 := by omega
    have HS : Hid (∀ W, Box w (.cells #[.int .i64 17, .int .i64 nm, .string tx, .slice (some ⟨kb, ko, none⟩) 2 kc] 46) W → W.cell? ⟨w.heap.size, 3, none⟩ = some (.slice (some ⟨kb, ko, none⟩) 2 kc) ∧ W.cell? ⟨kb, ko, none⟩ = some (.int .i64 (vn : Int)) ∧ W.cell? ⟨kb, ko + 1, none⟩ = some (.int .i64 c1)) := fun W h => ⟨h.cell 3, (h.below.cell (p := ⟨kb, ko, none⟩) hkw).trans t0, (h.below.cell (p := ⟨kb, ko + 1, none⟩) hkw).trans t1⟩
    clear hs htwo hthree hone
    go_enter Tryz.func29, Tryz.ntmps29
    go_wp2_with (go_at_call 56; refine Calls.mono (cI.out _) ?_; rintro e wI ⟨rfl, hwI⟩; have hwI2 := hwI.symm; subst hwI2)
    go_region_held3 (fun W => W.cell? ⟨w.heap.size, 3, none⟩ = some (.slice (some ⟨kb, ko, none⟩) 2 kc) ∧ W.cell? ⟨kb, ko, none⟩ = some (.int .i64 (vn : Int)) ∧ W.cell? ⟨kb, ko + 1, none⟩ = some (.int .i64 c1)) (first | exact HS.out _ DB | exact HS.out _ DA | exact HS.out _ B0.out.drew) (first | (have _z := DA; go_at_call 34; refine Calls.mono (cB1.out _ DA.below) ?_; rintro e wB ⟨rfl, hbB⟩; have DB := DA.next hbB) | (go_at_call 19; refine Calls.mono (cV.out _ B0.out.drew.below) ?_; rintro e wA ⟨rfl, hbA⟩; have DA := B0.out.drew.next hbA))
    all_goals
      have HF : Hid (Below w.heap.size w wB) := DB.below
      clear DA DB hbA hbB
      go_wp2
      go_ret
      exact ⟨by rw [HE.out]; rfl, HF.out⟩

end Go.Proofs.YtancoijbcobafaaGreatDoor

namespace Go.Proofs.YtancoijbcobafaaGreatDoor
open Go.RowKit

/-- What ShowStep answers. -/
def showStp (ns : List Nd) (k i : Int) : List UInt8 := if deepOf ns k = 0 then [] else if isStm (ns.getD k.toNat nd0).kind = true then stepL ns k i else []

set_option maxRecDepth 100000 in
set_option maxHeartbeats 3200000 in
theorem specShowStep_any (v0 v1 : Value) (ns : List Nd) (k i : Int) (w : World) (hi0 : -9223372036854775808 ≤ i) (hi1 : i ≤ 9223372036854775807) (hR : NdR.Row w w.heap.size v0 ns) (hl : szRow szNd ns ≤ 1048576) (L : List UInt8) (hL : Hid (showStp ns k i = L)) :
    Calls Tryz.prog 11 #[.agg #[v0, v1], .int .i64 k, .int .i64 i] w (Tells L w) := by
  obtain ⟨na, nc, rfl⟩ := hR.len
  obtain ⟨N, HN⟩ : ∃ N, Hid (ns.length = N) := ⟨_, (rfl : ns.length = ns.length)⟩
  have HV : Hid (NdR.Row w w.heap.size (.slice na N nc) ns) := by rw [← HN.out]; exact hR
  have HL : Hid (szRow szNd ns ≤ 1048576) := hl
  rw [HN.out]
  obtain ⟨d, hd⟩ : ∃ d, Hid (deepOf ns k = d) := ⟨_, (rfl : deepOf ns k = deepOf ns k)⟩
  have cD : Hid (∀ W, Below w.heap.size w W → Calls Tryz.prog 17 #[.slice na N nc, .int .i64 k] W fun e w' => e = .returned (.int .i64 d) ∧ Below W.heap.size W w') := fun W hW => by
    rw [← hd.out]
    exact specDeepOf_any _ ns _ W ((HV.out.keep hW).up hW.size) HL.out
  clear hR hl
  go_enter Tryz.func11, Tryz.ntmps11
  go_wp2_with fail
  go_at_call 17
  refine Calls.mono (cD.out _ (by go_grown)) ?_
  rintro e w1 ⟨rfl, hb1⟩
  have B1 : Hid (Box w (.cells #[.slice na N nc, v1] 31) w1) := (Box.first _ _).next hb1
  clear hb1 cD
  by_cases hdz : d = 0
  · have HE : Hid (txt L = ⟨#[]⟩) := by show _ = _; rw [← hL.out]; unfold showStp; rw [if_pos (by rw [hd.out]; exact hdz)]; rfl
    subst hdz
    go_wp2
    go_ret
    exact ⟨by rw [HE.out]; rfl, B1.out.below⟩
  have hne : deepOf ns k ≠ 0 := by rw [hd.out]; exact hdz
  have hkb := deep_inside hne
  rw [HN.out] at hkb
  obtain ⟨m, rfl⟩ : ∃ m : Nat, k = (m : Int) := ⟨k.toNat, by omega⟩
  have hm : m < N := by omega
  have hml : m < ns.length := by rw [HN.out]; exact hm
  have hd1 : (d == 0) = false := by simpa using hdz
  have hm0 : (0 : Int) ≤ (m : Int) := by omega
  have hm1 : (m : Int) < (N : Int) := by omega
  obtain ⟨b, off, ka, kc, rfl, hb, e0, _, _, _, _⟩ := RowNd.at HV.out m hml
  obtain ⟨kd, hkd⟩ : ∃ kd, Hid (ns[m].kind = kd) := ⟨_, (rfl : ns[m].kind = ns[m].kind)⟩
  rw [hkd.out] at e0
  have HK : Hid ((ns.getD m nd0).kind = kd) := by show _ = _; rw [← hkd.out]; simp [List.getD, hml]
  have HL2 : Hid (L = if isStm kd = true then stepL ns (m : Int) i else []) := by
    show _ = _
    rw [← hL.out]
    unfold showStp
    rw [if_neg hne, Int.toNat_natCast, HK.out]
  have p0 := B1.out.cell 0
  simp at p0
  have f0 := (B1.out.below.cell (p := ⟨b, off + m * 4, none⟩) hb).trans e0
  have HNE : Hid (deepOf ns (m : Int) ≠ 0) := hne
  clear hne hkb e0
  cases hv : isStm kd
  · have HE : Hid (txt L = ⟨#[]⟩) := by show _ = _; rw [HL2.out, hv]; rfl
    go_wp2_with (go_at_call 28; refine (l04Statement_is _ _).mono ?_; rintro e w2 ⟨rfl, hw1⟩; have hw2 := hw1.symm; subst hw2; rw [hv])
    go_ret
    exact ⟨by rw [HE.out]; rfl, B1.out.below⟩
  · have HE : Hid (L = stepL ns (m : Int) i) := by show _ = _; rw [HL2.out, hv]; rfl
    have cV : Hid (Calls Tryz.prog 29 #[.slice (some ⟨b, off, none⟩) N nc, .int .i64 (m : Int), .int .i64 i] w1 (Tells L w1)) := by
      rw [HE.out]
      exact l06Step_any _ N nc m w.heap.size ns HN hm HNE m (Nat.le_refl _) (by rw [HK.out]; exact hv) i w1 hi0 hi1 (Nat.le_of_lt B1.out.lt) (HV.out.keep B1.out.below)
    go_wp2_with (first | (go_at_call 28; refine (l04Statement_is _ _).mono ?_; rintro e w2 ⟨rfl, hw1⟩; have hw2 := hw1.symm; subst hw2; rw [hv]) | (go_at_call 29; refine Calls.mono cV.out ?_; rintro e w2 ⟨rfl, hb2⟩))
    go_ret
    exact ⟨rfl, B1.out.below.trans (hb2.mono (Nat.le_of_lt B1.out.lt))⟩

end Go.Proofs.YtancoijbcobafaaGreatDoor
