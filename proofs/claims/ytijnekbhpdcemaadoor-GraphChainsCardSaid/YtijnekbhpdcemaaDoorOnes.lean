/- math/bits.OnesCount64 counts bits. -/
import Derived.Test.YtijnekbhpdcemaaDoorChecked
import Derived.Test.YtijnekbhpdcemaaDoorBase
import Derived.Laws.Bits64b
import Derived.Outline
namespace Go.Proofs.YtijnekbhpdcemaaDoor
open Go.RowKit
set_option linter.unusedVariables false

/-- a byte n times over -/
def maskN (c : Nat) : Nat → Nat
  | 0 => 0
  | n + 1 => maskN c n * 256 + c

theorem and_split (h l mh ml : Nat) (hl : l < 256) (hm : ml < 256) : (h * 256 + l) &&& (mh * 256 + ml) = (h &&& mh) * 256 + (l &&& ml) := by
  have hlm : l &&& ml < 256 := Nat.and_lt_two_pow (n := 8) l hm
  apply Nat.eq_of_testBit_eq
  intro i
  rw [Nat.testBit_and]
  have e : ∀ a b : Nat, b < 256 → (a * 256 + b).testBit i = if i < 8 then b.testBit i else a.testBit (i - 8) := by
    intro a b hb
    rw [Nat.mul_comm]
    exact Nat.testBit_two_pow_mul_add a (i := 8) hb i
  rw [e h l hl, e mh ml hm, e _ _ hlm]
  split <;> rw [Nat.testBit_and]

def s1 (n x : Nat) : Nat := ((x / 2) &&& maskN 85 n) + (x &&& maskN 85 n)
def s2 (n x : Nat) : Nat := ((x / 4) &&& maskN 51 n) + (x &&& maskN 51 n)
def s3 (n x : Nat) : Nat := (x / 16 + x) &&& maskN 15 n
def pc8 (l : Nat) : Nat := (List.range 8).countP l.testBit

theorem s1_succ (n h l : Nat) (hl : l < 256) : s1 (n + 1) (h * 256 + l) = s1 n h * 256 + s1 1 l := by
  have e : (h * 256 + l) / 2 = (h / 2) * 256 + ((h % 2) * 128 + l / 2) := by omega
  have e2 : ((h % 2) * 128 + l / 2) &&& 85 = (l / 2) &&& 85 := by
    have : ∀ b, b < 2 → ∀ l, l < 256 → (b * 128 + l / 2) &&& 85 = (l / 2) &&& 85 := by decide +kernel
    exact this _ (by omega) l hl
  unfold s1
  rw [show maskN 85 (n + 1) = maskN 85 n * 256 + 85 from rfl, e, and_split _ _ _ _ (by omega) (by omega), and_split _ _ _ _ hl (by omega), e2, show maskN 85 1 = 85 from rfl]
  omega

theorem s2_succ (n h l : Nat) (hl : l < 256) : s2 (n + 1) (h * 256 + l) = s2 n h * 256 + s2 1 l := by
  have e : (h * 256 + l) / 4 = (h / 4) * 256 + ((h % 4) * 64 + l / 4) := by omega
  have e2 : ((h % 4) * 64 + l / 4) &&& 51 = (l / 4) &&& 51 := by
    have : ∀ b, b < 4 → ∀ l, l < 256 → (b * 64 + l / 4) &&& 51 = (l / 4) &&& 51 := by decide +kernel
    exact this _ (by omega) l hl
  unfold s2
  rw [show maskN 51 (n + 1) = maskN 51 n * 256 + 51 from rfl, e, and_split _ _ _ _ (by omega) (by omega), and_split _ _ _ _ hl (by omega), e2, show maskN 51 1 = 51 from rfl]
  omega

theorem s12_byte : ∀ l, l < 256 → s1 1 l < 256 ∧ s2 1 (s1 1 l) < 256 ∧ s2 1 (s1 1 l) % 16 ≤ 4 ∧ s2 1 (s1 1 l) / 16 ≤ 4 := by decide +kernel
theorem s3_byte : ∀ b, b ≤ 4 → ∀ l, l < 256 → ((b * 16 + s2 1 (s1 1 l) / 16 + s2 1 (s1 1 l)) &&& 15) = pc8 l := by decide +kernel

theorem s12_succ (n h l : Nat) (hl : l < 256) : s2 (n + 1) (s1 (n + 1) (h * 256 + l)) = s2 n (s1 n h) * 256 + s2 1 (s1 1 l) := by
  rw [s1_succ n h l hl, s2_succ n _ _ (s12_byte l hl).1]

theorem s12_low (n x : Nat) : s2 n (s1 n x) % 16 ≤ 4 := by
  cases n with
  | zero => simp [s2, maskN]
  | succ n =>
    have e : x = x / 256 * 256 + x % 256 := by omega
    have hb := s12_byte (x % 256) (by omega)
    rw [e, s12_succ n (x / 256) (x % 256) (by omega)]
    omega

def pcN : Nat → Nat → Nat
  | 0, _ => 0
  | n + 1, x => pcN n (x / 256) * 256 + pc8 (x % 256)

theorem s123 (n : Nat) : ∀ x, s3 n (s2 n (s1 n x)) = pcN n x := by
  induction n with
  | zero => intro x; simp [s3, maskN, pcN]
  | succ n ih =>
    intro x
    have e : x = x / 256 * 256 + x % 256 := by omega
    have hl : x % 256 < 256 := by omega
    have hb := s12_byte (x % 256) hl
    have h1 : s2 (n + 1) (s1 (n + 1) x) = s2 n (s1 n (x / 256)) * 256 + s2 1 (s1 1 (x % 256)) := by
      have := s12_succ n (x / 256) (x % 256) hl
      rwa [← e] at this
    have hlow := s12_low n (x / 256)
    have ih' := ih (x / 256)
    have h3 := s3_byte (s2 n (s1 n (x / 256)) % 16) hlow (x % 256) hl
    rw [h1]
    generalize s2 n (s1 n (x / 256)) = H at *
    generalize s2 1 (s1 1 (x % 256)) = L at *
    unfold s3 at ih' ⊢
    have e2 : (H * 256 + L) / 16 + (H * 256 + L) = (H / 16 + H) * 256 + (H % 16 * 16 + L / 16 + L) := by omega
    rw [show maskN 15 (n + 1) = maskN 15 n * 256 + 15 from rfl, e2, and_split _ _ _ _ (by omega) (by omega), ih', h3]
    rfl

/-- how many bits a number below 2^64 has -/
def pc (x : Nat) : Nat := (List.range 64).countP x.testBit

theorem countP_bits (n x : Nat) : (List.range (8 * (n + 1))).countP x.testBit = pc8 (x % 256) + (List.range (8 * n)).countP (x / 256).testBit := by
  rw [show 8 * (n + 1) = 8 + 8 * n by omega, List.range_add, List.countP_append, List.countP_map]
  congr 1
  · unfold pc8
    apply List.countP_congr
    intro i hi
    rw [show (256 : Nat) = 2 ^ 8 from rfl, Nat.testBit_mod_two_pow]
    simp at hi
    simp [hi]
  · apply List.countP_congr
    intro i _
    rw [show (256 : Nat) = 2 ^ 8 from rfl, Nat.testBit_div_two_pow]
    simp [Nat.add_comm]

theorem pc8_le (l : Nat) : pc8 l ≤ 8 := by
  unfold pc8
  exact Nat.le_trans List.countP_le_length (by simp)

theorem fold_sum (p0 p1 p2 p3 p4 p5 p6 p7 X : Nat) (h0 : p0 ≤ 8) (h1 : p1 ≤ 8) (h2 : p2 ≤ 8) (h3 : p3 ≤ 8) (h4 : p4 ≤ 8) (h5 : p5 ≤ 8) (h6 : p6 ≤ 8) (h7 : p7 ≤ 8)
    (e3 : X = p0 + 256 * p1 + 65536 * p2 + 16777216 * p3 + 4294967296 * p4 + 1099511627776 * p5 + 281474976710656 * p6 + 72057594037927936 * p7) :
    ((X + X / 256) + (X + X / 256) / 65536 + ((X + X / 256) + (X + X / 256) / 65536) / 4294967296) % 128 = p0 + (p1 + (p2 + (p3 + (p4 + (p5 + (p6 + p7)))))) ∧ X < 1000000000000000000 := by
  have d3 : X / 256 = p1 + 256 * p2 + 65536 * p3 + 16777216 * p4 + 4294967296 * p5 + 1099511627776 * p6 + 281474976710656 * p7 := by omega
  have e4 : X + X / 256 = (p0 + p1) + 256 * (p1 + p2) + 65536 * (p2 + p3) + 16777216 * (p3 + p4) + 4294967296 * (p4 + p5) + 1099511627776 * (p5 + p6) + 281474976710656 * (p6 + p7) + 72057594037927936 * p7 := by omega
  have hb : X < 1000000000000000000 := by omega
  refine ⟨?_, hb⟩
  clear d3 e3 hb
  generalize X + X / 256 = Y at e4 ⊢
  have d4 : Y / 65536 = (p2 + p3) + 256 * (p3 + p4) + 65536 * (p4 + p5) + 16777216 * (p5 + p6) + 4294967296 * (p6 + p7) + 1099511627776 * p7 := by omega
  have e5 : Y + Y / 65536 = (p0 + p1 + p2 + p3) + 256 * (p1 + p2 + p3 + p4) + 65536 * (p2 + p3 + p4 + p5) + 16777216 * (p3 + p4 + p5 + p6) + 4294967296 * (p4 + p5 + p6 + p7) + 1099511627776 * (p5 + p6 + p7) + 281474976710656 * (p6 + p7) + 72057594037927936 * p7 := by omega
  clear d4 e4
  generalize Y + Y / 65536 = Z at e5 ⊢
  have d5 : Z / 4294967296 = (p4 + p5 + p6 + p7) + 256 * (p5 + p6 + p7) + 65536 * (p6 + p7) + 16777216 * p7 := by omega
  rw [d5, e5]
  clear d5 e5
  omega

theorem pc_bytes (x : Nat) : pc x = pc8 (x % 256) + (pc8 (x / 256 % 256) + (pc8 (x / 256 / 256 % 256) + (pc8 (x / 256 / 256 / 256 % 256) + (pc8 (x / 256 / 256 / 256 / 256 % 256) + (pc8 (x / 256 / 256 / 256 / 256 / 256 % 256) + (pc8 (x / 256 / 256 / 256 / 256 / 256 / 256 % 256) + pc8 (x / 256 / 256 / 256 / 256 / 256 / 256 / 256 % 256))))))) := by
  unfold pc
  rw [show 64 = 8 * (7 + 1) from rfl, countP_bits, show 8 * 7 = 8 * (6 + 1) from rfl, countP_bits, show 8 * 6 = 8 * (5 + 1) from rfl, countP_bits, show 8 * 5 = 8 * (4 + 1) from rfl, countP_bits,
    show 8 * 4 = 8 * (3 + 1) from rfl, countP_bits, show 8 * 3 = 8 * (2 + 1) from rfl, countP_bits, show 8 * 2 = 8 * (1 + 1) from rfl, countP_bits, show 8 * 1 = 8 * (0 + 1) from rfl, countP_bits]
  simp

theorem pcN_bytes (x : Nat) : pcN 8 x = pc8 (x % 256) + 256 * pc8 (x / 256 % 256) + 65536 * pc8 (x / 256 / 256 % 256) + 16777216 * pc8 (x / 256 / 256 / 256 % 256) + 4294967296 * pc8 (x / 256 / 256 / 256 / 256 % 256) + 1099511627776 * pc8 (x / 256 / 256 / 256 / 256 / 256 % 256) + 281474976710656 * pc8 (x / 256 / 256 / 256 / 256 / 256 / 256 % 256) + 72057594037927936 * pc8 (x / 256 / 256 / 256 / 256 / 256 / 256 / 256 % 256) := by
  simp only [pcN]
  omega

theorem pc_sum (x : Nat) : ((pcN 8 x + pcN 8 x / 256) + (pcN 8 x + pcN 8 x / 256) / 65536 + ((pcN 8 x + pcN 8 x / 256) + (pcN 8 x + pcN 8 x / 256) / 65536) / 4294967296) % 128 = pc x ∧ pcN 8 x < 1000000000000000000 := by
  rw [pc_bytes]
  exact fold_sum _ _ _ _ _ _ _ _ _ (pc8_le _) (pc8_le _) (pc8_le _) (pc8_le _) (pc8_le _) (pc8_le _) (pc8_le _) (pc8_le _) (pcN_bytes x)

theorem andU (a m : Nat) (A : Int) (hA : A = (a : Int)) (ha : a < 18446744073709551616) (hm : m < 18446744073709551616) : bits .and .u64 A (m : Int) = ((a &&& m : Nat) : Int) := by
  rw [hA]; exact bits_and_u64_nat a m ha hm

theorem and127 (a : Nat) (ha : a < 9223372036854775808) : bits .and .i64 (a : Int) 127 = ((a % 128 : Nat) : Int) := by
  have hx : a &&& 127 < 2 ^ 7 := Nat.and_lt_two_pow _ (by omega)
  have h1 : (BitVec.ofInt 64 (a : Int)).toNat = a := by
    rw [BitVec.ofInt_natCast, BitVec.toNat_ofNat]; exact Nat.mod_eq_of_lt (by omega)
  have h2 : (BitVec.ofInt 64 ((127 : Nat) : Int)).toNat = 127 := by
    rw [BitVec.ofInt_natCast, BitVec.toNat_ofNat]
  show IntKind.i64.wrap ((BitVec.ofInt 64 (a : Int) &&& BitVec.ofInt 64 ((127 : Nat) : Int)).toNat : Int) = _
  have e7 : a &&& 127 = a % 128 := Nat.and_two_pow_sub_one_eq_mod a 7
  rw [BitVec.toNat_and, h1, h2, IntKind.wrap_i64, e7]
  omega

theorem ones_any (x : Nat) (hx : x < 18446744073709551616) (w : World) :
    Calls Tryd.prog 42 #[.int .u64 x] w fun e w' => e = .returned (.int .i64 (pc x)) ∧ w = w' := by
  obtain ⟨hsum, hlt⟩ := pc_sum x
  have h123 := s123 8 x
  obtain ⟨A1, hA1⟩ : ∃ A1, A1 = (x / 2) &&& 6148914691236517205 := ⟨_, rfl⟩
  obtain ⟨A2, hA2⟩ : ∃ A2, A2 = x &&& 6148914691236517205 := ⟨_, rfl⟩
  obtain ⟨X1, hX1⟩ : ∃ X1, X1 = A1 + A2 := ⟨_, rfl⟩
  obtain ⟨A3, hA3⟩ : ∃ A3, A3 = (X1 / 4) &&& 3689348814741910323 := ⟨_, rfl⟩
  obtain ⟨A4, hA4⟩ : ∃ A4, A4 = X1 &&& 3689348814741910323 := ⟨_, rfl⟩
  obtain ⟨X2, hX2⟩ : ∃ X2, X2 = A3 + A4 := ⟨_, rfl⟩
  obtain ⟨X3, hX3⟩ : ∃ X3, X3 = (X2 / 16 + X2) &&& 1085102592571150095 := ⟨_, rfl⟩
  have l1 : A1 ≤ 6148914691236517205 := by rw [hA1]; exact Nat.and_le_right
  have l2 : A2 ≤ 6148914691236517205 := by rw [hA2]; exact Nat.and_le_right
  have l3 : A3 ≤ 3689348814741910323 := by rw [hA3]; exact Nat.and_le_right
  have l4 : A4 ≤ 3689348814741910323 := by rw [hA4]; exact Nat.and_le_right
  have e3 : X3 = pcN 8 x := by
    rw [← h123, hX3, hX2, hA3, hA4, hX1, hA1, hA2]; rfl
  rw [← e3] at hsum hlt
  have k1 : bits .and .u64 ((x : Int) / 2) 6148914691236517205 = (A1 : Int) := by rw [hA1]; exact andU (x / 2) 6148914691236517205 _ (by omega) (by omega) (by omega)
  have k2 : bits .and .u64 (x : Int) 6148914691236517205 = (A2 : Int) := by rw [hA2]; exact andU x 6148914691236517205 _ (by omega) (by omega) (by omega)
  have k3 : bits .and .u64 (((A1 : Int) + (A2 : Int)) / 4) 3689348814741910323 = (A3 : Int) := by rw [hA3]; exact andU (X1 / 4) 3689348814741910323 _ (by omega) (by omega) (by omega)
  have k4 : bits .and .u64 ((A1 : Int) + (A2 : Int)) 3689348814741910323 = (A4 : Int) := by rw [hA4]; exact andU X1 3689348814741910323 _ (by omega) (by omega) (by omega)
  have k5 : bits .and .u64 (((A3 : Int) + (A4 : Int)) / 16 + ((A3 : Int) + (A4 : Int))) 1085102592571150095 = (X3 : Int) := by rw [hX3]; exact andU (X2 / 16 + X2) 1085102592571150095 _ (by omega) (by omega) (by omega)
  have k6 : Hid (bits .and .i64 ((X3 : Int) + (X3 : Int) / 256 + ((X3 : Int) + (X3 : Int) / 256) / 65536 + ((X3 : Int) + (X3 : Int) / 256 + ((X3 : Int) + (X3 : Int) / 256) / 65536) / 4294967296) 127 = ((pc x : Nat) : Int)) := Lib.hid (by
    have := and127 (X3 + X3 / 256 + (X3 + X3 / 256) / 65536 + (X3 + X3 / 256 + (X3 + X3 / 256) / 65536) / 4294967296) (by omega)
    rw [hsum] at this
    rw [← this]
    congr 1)
  clear h123 hsum hA1 hA2 hX1 hA3 hA4 hX2 hX3 e3
  go_enter Tryd.func42, Tryd.ntmps42
  go_wp2
  go_ret
  exact ⟨ret_int k6.out, rfl⟩

end Go.Proofs.YtijnekbhpdcemaaDoor
