/-
  Chapter 6, plainly: how long the texts of statements and programs are; blanks above twenty are twenty. No program, no world.
-/
import Derived.Test.YtbanmldmdoedkaaGreatDoorPa
namespace Go.Proofs.YtbanmldmdoedkaaGreatDoor

theorem stepL_len6 {ns : List Nd} {m : Nat} (hm : m < ns.length) (hd : deepOf ns (m : Int) ≠ 0) : ∀ k : Nat, k ≤ m → isStm (ns.getD k nd0).kind = true → ∀ i, (stepL ns (k : Int) i).length ≤ 100 * 6 ^ (deepOf ns (k : Int)).toNat := by
  intro k
  induction k using Nat.strongRecOn with
  | _ k ih =>
    intro hk hs i
    have hx := stmKids (deep_nodes hm hd k hk) hs
    rw [stepL_body hm hd hk hs]
    obtain ⟨n, hn, hnk, hnv, _⟩ := step_val hm hd hk hs
    have hdk := deep_kid hm hd hk (getD_mem hx.some)
    rw [hn] at hdk
    have hnl := valL_len hm hd n (by omega) hnv
    obtain ⟨D, hD⟩ : ∃ D, (deepOf ns (k : Int)).toNat = D + 2 := ⟨(deepOf ns (k : Int)).toNat - 2, by omega⟩
    have hv6 : (valL ns (n : Int)).length ≤ 120 * 6 ^ D := by
      have h1 : 4 ^ (deepOf ns (n : Int)).toNat ≤ 6 ^ (deepOf ns (n : Int)).toNat := Nat.pow_le_pow_left (by omega) _
      have h2 : 6 ^ (deepOf ns (n : Int)).toNat ≤ 6 ^ (D + 1) := Nat.pow_le_pow_right (by omega) (by omega)
      rw [Nat.pow_succ] at h2
      omega
    rw [hD, show 100 * 6 ^ (D + 2) = 3600 * 6 ^ D by rw [Nat.pow_add]; omega]
    have hp1 : 1 ≤ 6 ^ D := Nat.one_le_pow _ _ (by omega)
    have hbl : ∀ j, 0 < j → j < (ns.getD k nd0).kids.length → (blkL ns (stepL ns) ((ns.getD k nd0).kids.getD j 0) (inNext i)).length ≤ 1200 * 6 ^ D := fun j h0 hj => by
      obtain ⟨b, hbe, hbk, _, h12, hbe2⟩ := two_below hm hd hk h0 hs hj
      unfold blkL
      rw [hbe, Int.toNat_natCast]
      have h1 := stepsTo_len (S := stepL ns) (cs := (ns.getD b nd0).kids) (i := inNext i) (b := 100 * 6 ^ D) (fun e he => by
        obtain ⟨n, rfl, hn, hsn, hp, hq⟩ := hbe2 e he
        refine Nat.le_trans (ih n (by omega) (by omega) hsn _) ?_
        exact Nat.mul_le_mul_left _ (Nat.pow_le_pow_right (by omega) (by omega))) _ (Nat.le_refl _)
      refine Nat.le_trans h1 ?_
      have h2 := Nat.mul_le_mul_right (100 * 6 ^ D) h12
      omega
    generalize 6 ^ D = x at hv6 hp1 hbl ⊢
    have hi := inL_len i
    have hnm := hx.name
    rw [← name_len] at hnm
    rw [← hn] at hv6
    have hst := hx.stm
    unfold stepBody
    by_cases h16 : (ns.getD k nd0).kind = 16
    · have b1 := hbl 1 (by omega) (by rw [hx.three h16]; omega)
      have b2 := hbl 2 (by omega) (by rw [hx.three h16]; omega)
      rw [if_neg (by omega), if_neg (by omega), if_neg (by omega), if_neg (by omega), if_neg (by omega), if_pos h16]
      simp only [List.length_append, List.length_cons, List.length_nil]
      omega
    · by_cases h17 : (ns.getD k nd0).kind = 17
      · have b1 := hbl 1 (by omega) (by rw [hx.two h17]; omega)
        rw [if_neg (by omega), if_neg (by omega), if_neg (by omega), if_neg (by omega), if_neg (by omega), if_neg h16]
        simp only [List.length_append, List.length_cons, List.length_nil]
        omega
      · have hc : (ns.getD k nd0).kind = 13 ∨ (ns.getD k nd0).kind = 14 ∨ (ns.getD k nd0).kind = 15 ∨ (ns.getD k nd0).kind = 18 ∨ (ns.getD k nd0).kind = 19 := by omega
        rcases hc with e | e | e | e | e
        · rw [if_pos e]
          simp only [List.length_append, List.length_cons, List.length_nil]
          omega
        · rw [if_neg (by omega), if_pos e]
          simp only [List.length_append, List.length_cons, List.length_nil]
          omega
        · rw [if_neg (by omega), if_neg (by omega), if_pos e]
          simp only [List.length_append, List.length_cons, List.length_nil]
          omega
        · rw [if_neg (by omega), if_neg (by omega), if_neg (by omega), if_pos e]
          simp only [List.length_append, List.length_cons, List.length_nil]
          omega
        · rw [if_neg (by omega), if_neg (by omega), if_neg (by omega), if_neg (by omega), if_pos e]
          simp only [List.length_append, List.length_cons, List.length_nil]
          omega
theorem body_len6 {ns : List Nd} {m : Nat} (hm : m < ns.length) (hd : deepOf ns (m : Int) ≠ 0) {b : Nat} (hb : b ≤ m) (h20 : (ns.getD b nd0).kind = 20) (i : Int) : (blkL ns (stepL ns) (b : Int) i).length ≤ 13000000000 := by
  have hkb := blk_kids (deep_nodes hm hd b hb) h20
  unfold blkL
  rw [Int.toNat_natCast]
  have h1 := stepsTo_len (S := stepL ns) (cs := (ns.getD b nd0).kids) (i := i) (b := 1007769600) (fun e he => by
    have hb2 := ahead_of hm hd b hb e he
    have hs2 := hkb.2 e he
    have hdk := deep_kid hm hd hb he
    obtain ⟨n, rfl⟩ : ∃ n : Nat, e = (n : Int) := ⟨e.toNat, by omega⟩
    rw [Int.toNat_natCast] at hs2
    refine Nat.le_trans (stepL_len6 hm hd n (by omega) hs2 i) ?_
    have h2 : 6 ^ (deepOf ns (n : Int)).toNat ≤ 6 ^ 9 := Nat.pow_le_pow_right (by omega) (by omega)
    have h3 : (6 : Nat) ^ 9 = 10077696 := by decide
    omega) _ (Nat.le_refl _)
  refine Nat.le_trans h1 ?_
  have h2 := Nat.mul_le_mul_right 1007769600 hkb.1
  omega
theorem fnT_len6 {p : Pg} (h : programOk p = true) {i : Nat} (hi : i < p.fns.length) : (fnT p.nodes (p.fns.getD i fc0)).length ≤ 14000000000 := by
  have hf := fn_facts h hi
  obtain ⟨hN, _, hd⟩ := prog_deep h
  generalize p.fns.getD i fc0 = f at hf ⊢
  have hm : p.nodes.length - 1 < p.nodes.length := by omega
  have h1 := parTo_len hf.pars _ (Nat.le_refl _)
  have h2 := hf.few
  have h3 : f.params.length * 20 ≤ 3 * 20 := Nat.mul_le_mul_right _ h2
  have hb := hf.body
  obtain ⟨b, hbe⟩ : ∃ b : Nat, f.body = (b : Int) := ⟨f.body.toNat, by omega⟩
  have h4 := body_len6 hm hd (b := b) (by omega) (by rw [hbe, Int.toNat_natCast] at hb; exact hb.2.2) 1
  have h5 : (resL f).length ≤ 12 := by
    unfold resL
    split
    · simp
    · have := tyL_len f.res
      simp only [List.length_append, List.length_cons, List.length_nil]
      omega
  have h6 : (retL p.nodes f).length ≤ 30000008 := by
    unfold retL
    split
    · rename_i hr
      by_cases hz : f.res = 0
      · have := hf.none hz
        omega
      · have hs := hf.some hz
        obtain ⟨n, hn⟩ : ∃ n : Nat, f.ret = (n : Int) := ⟨f.ret.toNat, by omega⟩
        rw [hn, Int.toNat_natCast] at hs
        have := val_len hm hd (n := n) (by omega) hs.2.2
        rw [hn]
        simp only [List.length_append, List.length_cons, List.length_nil]
        omega
    · simp
  have h7 : f.name.data.toList.length ≤ 8 := by rw [Array.length_toList]; exact hf.name
  unfold fnT
  rw [hbe]
  simp only [List.length_append, List.length_cons, List.length_nil]
  omega
theorem prgTo_len6 {p : Pg} (h : programOk p = true) : ∀ n, n ≤ p.fns.length → (prgTo p n).length ≤ 112000000000 := by
  have h8 := (prog_deep h).2.1
  have one : ∀ n, n ≤ p.fns.length → (prgTo p n).length ≤ n * 14000000000 := by
    intro n
    induction n with
    | zero => intro _; simp [prgTo]
    | succ n ih =>
      intro hn
      have h1 := ih (by omega)
      have h2 := fnT_len6 h (show n < p.fns.length by omega)
      simp only [prgTo, List.length_append]
      rw [Nat.add_mul]
      omega
  intro n hn
  have := one n hn
  have h2 := Nat.mul_le_mul_right 14000000000 (show n ≤ 8 by omega)
  omega

theorem inL_clamp {i j : Int} (h : min i.toNat 20 = min j.toNat 20) : inL i = inL j := by unfold inL; rw [h]
theorem stepsTo_at {S : Int → Int → List UInt8} {cs : List Int} {i j : Int} (H : ∀ c, S c i = S c j) : ∀ n, stepsTo S cs i n = stepsTo S cs j n := by
  intro n
  induction n with
  | zero => rfl
  | succ n ih => simp only [stepsTo]; rw [ih, H]
theorem stepF_clamp (ns : List Nd) : ∀ (f : Nat) (k i j : Int), 0 ≤ i → 0 ≤ j → i + (f : Int) < 9223372036854775807 → j + (f : Int) < 9223372036854775807 → min i.toNat 20 = min j.toNat 20 → stepF ns f k i = stepF ns f k j := by
  intro f
  induction f with
  | zero => intro k i j _ _ _ _ _; rfl
  | succ f ih =>
    intro k i j hi hj hi1 hj1 h
    have ei : inNext i = i + 1 := by unfold inNext; rw [if_neg (by omega)]
    have ej : inNext j = j + 1 := by unfold inNext; rw [if_neg (by omega)]
    have hb : ∀ c, blkL ns (stepF ns f) c (inNext i) = blkL ns (stepF ns f) c (inNext j) := fun c => by
      unfold blkL
      rw [ei, ej]
      exact stepsTo_at (fun e => ih e (i + 1) (j + 1) (by omega) (by omega) (by omega) (by omega) (by omega)) _
    simp only [stepF]
    unfold stepBody
    simp only [inL_clamp h, hb]
/-- A statement at more than twenty stands as at twenty. -/
theorem stepL_clamp (ns : List Nd) (k : Nat) (hk : k < 1000000000) {i j : Int} (hi : 0 ≤ i) (hj : 0 ≤ j) (hi1 : i ≤ 1000) (hj1 : j ≤ 1000) (h : min i.toNat 20 = min j.toNat 20) : stepL ns (k : Int) i = stepL ns (k : Int) j := by
  unfold stepL
  exact stepF_clamp ns _ _ i j hi hj (by omega) (by omega) h
theorem blkL_clamp {ns : List Nd} {m : Nat} (hm : m < ns.length) (hd : deepOf ns (m : Int) ≠ 0) (hN : ns.length < 1000000000) {b : Nat} (hb : b ≤ m) {i j : Int} (hi : 0 ≤ i) (hj : 0 ≤ j) (hi1 : i ≤ 1000) (hj1 : j ≤ 1000) (h : min i.toNat 20 = min j.toNat 20) : blkL ns (stepL ns) (b : Int) i = blkL ns (stepL ns) (b : Int) j := by
  unfold blkL
  rw [Int.toNat_natCast]
  have : ∀ n, n ≤ (ns.getD b nd0).kids.length → stepsTo (stepL ns) (ns.getD b nd0).kids i n = stepsTo (stepL ns) (ns.getD b nd0).kids j n := by
    intro n
    induction n with
    | zero => intro _; rfl
    | succ n ih =>
      intro hn
      have hc := getD_mem (cs := (ns.getD b nd0).kids) (n := n) (by omega)
      have hb2 := ahead_of hm hd b hb _ hc
      simp only [stepsTo]
      rw [ih (by omega)]
      obtain ⟨c, hce⟩ : ∃ c : Nat, (ns.getD b nd0).kids.getD n 0 = (c : Int) := ⟨((ns.getD b nd0).kids.getD n 0).toNat, by omega⟩
      rw [hce] at hb2 ⊢
      rw [stepL_clamp ns c (by omega) hi hj hi1 hj1 h]
  exact this _ (Nat.le_refl _)
theorem stepsTo_mono (S : Int → Int → List UInt8) (cs : List Int) (i : Int) (t K : Nat) (h : t ≤ K) : (stepsTo S cs i t).length ≤ (stepsTo S cs i K).length := by
  induction K with
  | zero =>
    have : t = 0 := by omega
    subst this
    omega
  | succ K ih =>
    rcases Nat.lt_or_ge t (K + 1) with h1 | h1
    · have := ih (by omega)
      simp only [stepsTo, List.length_append]
      omega
    · have : t = K + 1 := by omega
      subst this
      omega
theorem prgTo_mono (p : Pg) (t K : Nat) (h : t ≤ K) : (prgTo p t).length ≤ (prgTo p K).length := by
  induction K with
  | zero =>
    have : t = 0 := by omega
    subst this
    omega
  | succ K ih =>
    rcases Nat.lt_or_ge t (K + 1) with h1 | h1
    · have := ih (by omega)
      simp only [prgTo, List.length_append]
      omega
    · have : t = K + 1 := by omega
      subst this
      omega
theorem parTo_mono (ps : List Pm) (t K : Nat) (h : t ≤ K) : (parTo ps t).length ≤ (parTo ps K).length := by
  induction K with
  | zero =>
    have : t = 0 := by omega
    subst this
    omega
  | succ K ih =>
    rcases Nat.lt_or_ge t (K + 1) with h1 | h1
    · have := ih (by omega)
      simp only [parTo, List.length_append]
      omega
    · have : t = K + 1 := by omega
      subst this
      omega

end Go.Proofs.YtbanmldmdoedkaaGreatDoor
