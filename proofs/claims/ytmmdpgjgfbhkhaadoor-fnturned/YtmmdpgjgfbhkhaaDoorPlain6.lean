/-
  Chapter 2, plainly: sums of 32 bits, bit by bit and by a table of four halvings; one byte that is turned. No program, no world.
-/
import Derived.Test.YtmmdpgjgfbhkhaaDoorPlain1
namespace Go.Proofs.YtmmdpgjgfbhkhaaDoor

/-- One halving. -/
def half (x : Nat) : Nat := if x % 2 = 1 then (x / 2) ^^^ 3558460437 else x / 2
def halves : Nat → Nat → Nat
  | 0, x => x
  | n + 1, x => halves n (half x)
/-- One byte more. -/
def sum1 (s b : Nat) : Nat := halves 8 (s ^^^ b)
def sumL (s : Nat) (l : List UInt8) : Nat := l.foldl (fun s b => sum1 s b.toNat) s

theorem xor_lt32 {x y : Nat} (hx : x < 4294967296) (hy : y < 4294967296) : x ^^^ y < 4294967296 := Nat.xor_lt_two_pow (n := 32) hx hy
theorem half_lt {x : Nat} (hx : x < 4294967296) : half x < 4294967296 := by
  unfold half
  split
  · exact xor_lt32 (by omega) (by omega)
  · omega
theorem halves_lt : ∀ (n : Nat) {x : Nat}, x < 4294967296 → halves n x < 4294967296
  | 0, _, h => h
  | n + 1, _, h => halves_lt n (half_lt h)
theorem halves_add : ∀ (n m x : Nat), halves (n + m) x = halves m (halves n x)
  | 0, m, x => by rw [Nat.zero_add]; rfl
  | n + 1, m, x => by rw [show n + 1 + m = (n + m) + 1 by omega]; exact halves_add n m (half x)
theorem sum1_lt {s b : Nat} (hs : s < 4294967296) (hb : b < 256) : sum1 s b < 4294967296 := halves_lt 8 (xor_lt32 hs (by omega))
theorem sumL_lt (l : List UInt8) : ∀ {s : Nat}, s < 4294967296 → sumL s l < 4294967296 := by
  induction l with
  | nil => intro s h; exact h
  | cons b l ih => intro s h; exact ih (sum1_lt h (by have := b.toNat_lt; omega))
theorem sumL_append (s : Nat) (l m : List UInt8) : sumL s (l ++ m) = sumL (sumL s l) m := by simp [sumL]
theorem sumL_snoc (s : Nat) (l : List UInt8) (b : UInt8) : sumL s (l ++ [b]) = sum1 (sumL s l) b.toNat := by simp [sumL]

/-! ### Halvings keep exclusive or -/
theorem half_xor (x y : Nat) : half (x ^^^ y) = half x ^^^ half y := by
  have hm : (x ^^^ y) % 2 = (x % 2) ^^^ (y % 2) := by
    have := Nat.xor_mod_two_pow (a := x) (b := y) (n := 1)
    simpa using this
  have hd : (x ^^^ y) / 2 = (x / 2) ^^^ (y / 2) := by
    have := Nat.shiftRight_xor_distrib (a := x) (b := y) (i := 1)
    simpa [Nat.shiftRight_eq_div_pow] using this
  unfold half
  rw [hm, hd]
  rcases Nat.mod_two_eq_zero_or_one x with hx | hx <;> rcases Nat.mod_two_eq_zero_or_one y with hy | hy <;> rw [hx, hy]
  · rfl
  · simp [Nat.xor_assoc]
  · simp
    rw [Nat.xor_assoc, Nat.xor_assoc, Nat.xor_comm (y / 2)]
  · simp
    rw [Nat.xor_assoc, ← Nat.xor_assoc 3558460437, Nat.xor_comm 3558460437 (y / 2), Nat.xor_assoc (y / 2), Nat.xor_self, Nat.xor_zero]
theorem halves_xor : ∀ (n x y : Nat), halves n (x ^^^ y) = halves n x ^^^ halves n y
  | 0, _, _ => rfl
  | n + 1, x, y => by rw [halves, half_xor, halves_xor n]; rfl
theorem half_two (y : Nat) : half (2 * y) = y := by
  unfold half
  rw [if_neg (by omega)]
  omega
theorem halves_four (y : Nat) : halves 4 (16 * y) = y := by
  show half (half (half (half (16 * y)))) = y
  rw [show 16 * y = 2 * (2 * (2 * (2 * y))) by omega, half_two, half_two, half_two, half_two]

/-- What four halvings make of 0 .. 15. -/
def tab4 : List Nat := [0x00000000, 0x4589ac8d, 0x8b13591a, 0xce9af597, 0xbe152a1f, 0xfb9c8692, 0x35067305, 0x708fdf88, 0xd419cc15, 0x91906098, 0x5f0a950f, 0x1a833982, 0x6a0ce60a, 0x2f854a87, 0xe11fbf10, 0xa496139d]
theorem tab4_at : ∀ k, k < 16 → tab4.getD k 0 = halves 4 k := by decide
theorem halves_tab (x : Nat) : halves 4 x = (x / 16) ^^^ tab4.getD (x % 16) 0 := by
  have h : x = (16 * (x / 16)) ^^^ (x % 16) := by
    have h1 : 16 * (x / 16) + x % 16 = x := Nat.div_add_mod x 16
    have h2 := Nat.two_pow_add_eq_or_of_lt (i := 4) (a := x / 16) (b := x % 16) (Nat.mod_lt _ (by omega))
    have h3 : 16 * (x / 16) &&& x % 16 = 0 := by
      apply Nat.eq_of_testBit_eq
      intro i
      rw [Nat.testBit_and, show 16 * (x / 16) = 2 ^ 4 * (x / 16) from rfl, Nat.testBit_two_pow_mul, show x % 16 = x % 2 ^ 4 from rfl, Nat.testBit_mod_two_pow]
      by_cases hi : 4 ≤ i
      · simp [show ¬ i < 4 by omega]
      · simp [hi]
    apply Nat.eq_of_testBit_eq
    intro i
    rw [Nat.testBit_xor, show 16 * (x / 16) = 2 ^ 4 * (x / 16) from rfl, Nat.testBit_two_pow_mul, show x % 16 = x % 2 ^ 4 from rfl, Nat.testBit_mod_two_pow, show x / 16 = x / 2 ^ 4 from rfl, Nat.testBit_div_two_pow]
    by_cases hi : 4 ≤ i
    · simp [hi, show ¬ i < 4 by omega, show i - 4 + 4 = i by omega]
    · simp [hi, show i < 4 by omega]
  calc halves 4 x = halves 4 ((16 * (x / 16)) ^^^ (x % 16)) := by rw [← h]
    _ = (x / 16) ^^^ tab4.getD (x % 16) 0 := by rw [halves_xor, halves_four, tab4_at _ (Nat.mod_lt _ (by omega))]
theorem sum1_tab (s b : Nat) : sum1 s b = halves 4 (halves 4 (s ^^^ b)) := halves_add 4 4 _

/-! ### One byte that is turned -/
theorem xor_left_inj {a b c : Nat} (h : a ^^^ c = b ^^^ c) : a = b := by
  have := congrArg (· ^^^ c) h
  simpa [Nat.xor_assoc] using this
theorem eq_of_xor_zero {a b : Nat} (h : a ^^^ b = 0) : a = b := xor_left_inj (c := b) (by rw [h, Nat.xor_self])
theorem half_inj {x y : Nat} (hx : x < 4294967296) (hy : y < 4294967296) (h : half x = half y) : x = y := by
  have hz : half (x ^^^ y) = 0 := by rw [half_xor, h, Nat.xor_self]
  have hlt := xor_lt32 hx hy
  have h0 : x ^^^ y = 0 := by
    generalize x ^^^ y = z at hz hlt
    unfold half at hz
    split at hz
    · have : z / 2 = 3558460437 := eq_of_xor_zero hz
      omega
    · omega
  exact eq_of_xor_zero h0
theorem halves_inj : ∀ (n : Nat) {x y : Nat}, x < 4294967296 → y < 4294967296 → halves n x = halves n y → x = y
  | 0, _, _, _, _, h => h
  | n + 1, _, _, hx, hy, h => half_inj hx hy (halves_inj n (half_lt hx) (half_lt hy) h)
theorem sum1_inj_sum {s r b : Nat} (hs : s < 4294967296) (hr : r < 4294967296) (hb : b < 256) (h : sum1 s b = sum1 r b) : s = r :=
  xor_left_inj (halves_inj 8 (xor_lt32 hs (by omega)) (xor_lt32 hr (by omega)) h)
theorem sum1_inj_byte {s b c : Nat} (hs : s < 4294967296) (hb : b < 256) (hc : c < 256) (h : sum1 s b = sum1 s c) : b = c := by
  have := halves_inj 8 (xor_lt32 hs (by omega)) (xor_lt32 hs (by omega)) h
  rw [Nat.xor_comm s, Nat.xor_comm s] at this
  exact xor_left_inj this
theorem sumL_inj (l : List UInt8) : ∀ {s r : Nat}, s < 4294967296 → r < 4294967296 → sumL s l = sumL r l → s = r := by
  induction l with
  | nil => intro s r _ _ h; exact h
  | cons b l ih =>
    intro s r hs hr h
    have hb := b.toNat_lt
    exact sum1_inj_sum hs hr (by omega) (ih (sum1_lt hs (by omega)) (sum1_lt hr (by omega)) h)
theorem sumL_turned {s : Nat} (hs : s < 4294967296) (l m : List UInt8) {b c : UInt8} (h : b ≠ c) : sumL s (l ++ b :: m) ≠ sumL s (l ++ c :: m) := by
  intro he
  rw [sumL_append, sumL_append] at he
  have hb := b.toNat_lt
  have hc := c.toNat_lt
  have h1 := sumL_lt l hs
  have h2 := sumL_inj m (sum1_lt h1 (by omega)) (sum1_lt h1 (by omega)) he
  exact h (UInt8.toNat.inj (sum1_inj_byte h1 (by omega) (by omega) h2))

/-! ### Four bytes, the highest first -/
def four (x : Nat) : List Int := [(x : Int) / 16777216 % 256, (x : Int) / 65536 % 256, (x : Int) / 256 % 256, (x : Int) % 256]
theorem four_inj {x y : Nat} (hx : x < 4294967296) (hy : y < 4294967296) (h : four x = four y) : x = y := by
  unfold four at h
  simp only [List.cons.injEq, and_true] at h
  omega

end Go.Proofs.YtmmdpgjgfbhkhaaDoor
