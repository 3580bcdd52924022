/-
  Chapter 3, plainly: key words, names, signs read from a text. No program, no world.
-/
import Derived.Test.YtljphnjmeckpbaaGreatPlain4
namespace Go.Proofs.YtljphnjmeckpbaaGreat

/-- A sign. -/
structure Sg where
  kind : Int
  text : ByteArray
  num : Int

def keys : List ByteArray := [⟨#[102, 110]⟩, ⟨#[108, 101, 116]⟩, ⟨#[105, 102]⟩, ⟨#[101, 108, 115, 101]⟩, ⟨#[119, 104, 105, 108, 101]⟩, ⟨#[112, 114, 105, 110, 116]⟩, ⟨#[100, 111]⟩, ⟨#[110, 101, 119]⟩, ⟨#[99, 108, 111, 110, 101]⟩, ⟨#[109, 117, 116]⟩, ⟨#[105, 110, 112, 117, 116]⟩, ⟨#[105, 110, 116]⟩, ⟨#[98, 111, 120]⟩, ⟨#[114, 101, 116]⟩]
def isLet (c : UInt8) : Bool := decide (97 ≤ c.toNat) && decide (c.toNat ≤ 122)
def isLF (c : UInt8) : Bool := isLet c || isFig c
def isKey (s : ByteArray) : Bool := keys.any fun k => k.toList == s.toList
def nameOk (s : ByteArray) : Bool := decide (1 ≤ s.size) && decide (s.size ≤ 8) && (s.data.toList.head?.any isLet) && !isKey s && s.data.toList.all isLF

def marks3 : List ByteArray := [⟨#[45, 62]⟩, ⟨#[61, 61]⟩, ⟨#[40]⟩, ⟨#[41]⟩, ⟨#[123]⟩, ⟨#[125]⟩, ⟨#[59]⟩, ⟨#[58]⟩, ⟨#[44]⟩, ⟨#[38]⟩, ⟨#[42]⟩, ⟨#[61]⟩, ⟨#[43]⟩, ⟨#[60]⟩]
/-- The mark that a row of bytes begins with, the longest. -/
def markOf (l : List UInt8) : Option ByteArray := marks3.find? fun m => m.data.toList.isPrefixOf l

/-- Signs of a row of bytes, with fuel. -/
def scan : Nat → List UInt8 → Option (List Sg)
  | 0, _ => some []
  | f + 1, l =>
    match l with
    | [] => some []
    | c :: r =>
      if c = 32 ∨ c = 10 then scan f r
      else if isLet c = true then
        if 8 < ((c :: r).takeWhile isLF).length then none
        else (scan f ((c :: r).dropWhile isLF)).map fun ss => ⟨1, ⟨((c :: r).takeWhile isLF).toArray⟩, 0⟩ :: ss
      else if isFig c = true then
        if 10 < ((c :: r).takeWhile isFig).length ∨ 1000000000 < valD ((c :: r).takeWhile isFig) then none
        else (scan f ((c :: r).dropWhile isFig)).map fun ss => ⟨2, ⟨#[]⟩, (valD ((c :: r).takeWhile isFig) : Int)⟩ :: ss
      else
        match markOf (c :: r) with
        | none => none
        | some m => (scan f ((c :: r).drop m.size)).map fun ss => ⟨3, m, 0⟩ :: ss

theorem markOf_size {l : List UInt8} {m : ByteArray} (h : markOf l = some m) : 0 < m.size ∧ m.data.toList = l.take m.size ∧ m.size ≤ l.length := by
  unfold markOf at h
  have h1 := List.mem_of_find?_eq_some h
  have h2 := List.find?_some h
  have h0 : ∀ m ∈ marks3, 0 < m.size := by decide
  have hp := List.isPrefixOf_iff_prefix.mp h2
  have hl : m.data.toList.length = m.size := tlen m
  exact ⟨h0 m h1, by rw [← hl]; exact List.prefix_iff_eq_take.mp hp, by rw [← hl]; exact hp.length_le⟩

theorem dropWhile_le {p : UInt8 → Bool} (l : List UInt8) : (l.dropWhile p).length ≤ l.length := (List.dropWhile_sublist p).length_le
theorem dropWhile_cons_lt {p : UInt8 → Bool} {c : UInt8} {r : List UInt8} (h : p c = true) : ((c :: r).dropWhile p).length ≤ r.length := by
  rw [List.dropWhile_cons, if_pos h]
  exact dropWhile_le r
theorem isLF_of_let {c : UInt8} (h : isLet c = true) : isLF c = true := by simp [isLF, h]

/-- Fuel beyond the length changes nothing. -/
theorem scan_fuel : ∀ (f g : Nat) (l : List UInt8), l.length ≤ f → l.length ≤ g → scan f l = scan g l
  | 0, 0, _, _, _ => rfl
  | 0, g + 1, l, hf, _ => by
    have : l = [] := List.eq_nil_of_length_eq_zero (by omega)
    subst this
    rfl
  | f + 1, 0, l, _, hg => by
    have : l = [] := List.eq_nil_of_length_eq_zero (by omega)
    subst this
    rfl
  | f + 1, g + 1, l, hf, hg => by
    match l, hf, hg with
    | [], _, _ => rfl
    | c :: r, hf, hg =>
      simp only [List.length_cons] at hf hg
      unfold scan
      by_cases h1 : c = 32 ∨ c = 10
      · simp only [if_pos h1]
        exact scan_fuel f g r (by omega) (by omega)
      · simp only [if_neg h1]
        by_cases h2 : isLet c = true
        · have := dropWhile_cons_lt (r := r) (isLF_of_let h2)
          simp only [if_pos h2]
          rw [scan_fuel f g _ (by omega) (by omega)]
        · simp only [if_neg h2]
          by_cases h3 : isFig c = true
          · have := dropWhile_cons_lt (r := r) h3
            simp only [if_pos h3]
            rw [scan_fuel f g _ (by omega) (by omega)]
          · simp only [if_neg h3]
            cases hm : markOf (c :: r) with
            | none => rfl
            | some m =>
              have := (markOf_size hm).1
              simp only
              rw [scan_fuel f g _ (by simp; omega) (by simp; omega)]

def signs (l : List UInt8) : Option (List Sg) := scan l.length l
theorem signs_nil : signs [] = some [] := rfl
theorem signs_blank {c : UInt8} {r : List UInt8} (h : c = 32 ∨ c = 10) : signs (c :: r) = signs r := by
  unfold signs
  rw [List.length_cons, scan]
  simp only [if_pos h]
theorem signs_word {c : UInt8} {r : List UInt8} (h0 : ¬ (c = 32 ∨ c = 10)) (h : isLet c = true) : signs (c :: r) =
    if 8 < ((c :: r).takeWhile isLF).length then none else (signs ((c :: r).dropWhile isLF)).map fun ss => ⟨1, ⟨((c :: r).takeWhile isLF).toArray⟩, 0⟩ :: ss := by
  have := dropWhile_cons_lt (r := r) (isLF_of_let h)
  unfold signs
  rw [List.length_cons, scan]
  simp only [if_neg h0, if_pos h]
  rw [scan_fuel r.length _ _ (by omega) (Nat.le_refl _)]
theorem signs_num {c : UInt8} {r : List UInt8} (h0 : ¬ (c = 32 ∨ c = 10)) (h1 : ¬ isLet c = true) (h : isFig c = true) : signs (c :: r) =
    if 10 < ((c :: r).takeWhile isFig).length ∨ 1000000000 < valD ((c :: r).takeWhile isFig) then none else (signs ((c :: r).dropWhile isFig)).map fun ss => ⟨2, ⟨#[]⟩, (valD ((c :: r).takeWhile isFig) : Int)⟩ :: ss := by
  have := dropWhile_cons_lt (r := r) h
  unfold signs
  rw [List.length_cons, scan]
  simp only [if_neg h0, if_neg h1, if_pos h]
  rw [scan_fuel r.length _ _ (by omega) (Nat.le_refl _)]
theorem signs_mark {c : UInt8} {r : List UInt8} (h0 : ¬ (c = 32 ∨ c = 10)) (h1 : ¬ isLet c = true) (h2 : ¬ isFig c = true) : signs (c :: r) =
    match markOf (c :: r) with
    | none => none
    | some m => (signs ((c :: r).drop m.size)).map fun ss => ⟨3, m, 0⟩ :: ss := by
  unfold signs
  rw [List.length_cons, scan]
  simp only [if_neg h0, if_neg h1, if_neg h2]
  cases hm : markOf (c :: r) with
  | none => rfl
  | some m =>
    have := (markOf_size hm).1
    simp only
    rw [scan_fuel r.length _ _ (by simp; omega) (Nat.le_refl _)]

/-- SignsOf: what comes out; nothing, and false, for a text that is too long or has anything else in it. -/
def signsOf (t : ByteArray) : List Sg × Bool := if 3000 < t.size then ([], false) else match signs t.data.toList with | some ss => (ss, true) | none => ([], false)

theorem scan_len : ∀ (f : Nat) (l : List UInt8) (ss : List Sg), l.length ≤ f → scan f l = some ss → ss.length ≤ l.length
  | 0, l, ss, _, h => by
    simp [scan] at h
    subst h
    simp
  | f + 1, l, ss, hf, h => by
    match l, hf, h with
    | [], _, h =>
      simp [scan] at h
      subst h
      simp
    | c :: r, hf, h =>
      simp only [List.length_cons] at hf ⊢
      unfold scan at h
      by_cases h1 : c = 32 ∨ c = 10
      · simp only [if_pos h1] at h
        have := scan_len f r ss (by omega) h
        omega
      · simp only [if_neg h1] at h
        by_cases h2 : isLet c = true
        · have hl := dropWhile_cons_lt (r := r) (isLF_of_let h2)
          simp only [if_pos h2] at h
          split at h
          · cases h
          · obtain ⟨ss', h4, rfl⟩ := Option.map_eq_some_iff.mp h
            have := scan_len f _ ss' (by omega) h4
            simp only [List.length_cons]
            omega
        · simp only [if_neg h2] at h
          by_cases h3 : isFig c = true
          · have hl := dropWhile_cons_lt (r := r) h3
            simp only [if_pos h3] at h
            split at h
            · cases h
            · obtain ⟨ss', h4, rfl⟩ := Option.map_eq_some_iff.mp h
              have := scan_len f _ ss' (by omega) h4
              simp only [List.length_cons]
              omega
          · simp only [if_neg h3] at h
            cases hm : markOf (c :: r) with
            | none => rw [hm] at h; cases h
            | some m =>
              rw [hm] at h
              have hms := markOf_size hm
              simp only at h
              obtain ⟨ss', h4, rfl⟩ := Option.map_eq_some_iff.mp h
              have := scan_len f _ ss' (by simp; omega) h4
              simp only [List.length_cons, List.length_drop] at this ⊢
              omega
theorem signsOf_len (t : ByteArray) : (signsOf t).1.length ≤ 3000 := by
  unfold signsOf
  split
  · simp
  · have := tlen t
    cases h : signs t.data.toList with
    | none => simp
    | some ss =>
      have := scan_len _ _ ss (Nat.le_refl _) h
      simp
      omega

end Go.Proofs.YtljphnjmeckpbaaGreat
