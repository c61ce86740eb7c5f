/- CRC-32 as plain arithmetic on 32 bits, of no program: the register's bit step, its linearity, that it loses nothing, what stands behind bytes of nought. -/
import Derived.Test.YtengpepapoainaaDoorLib
namespace Go.Proofs.YtengpepapoainaaDoor
open Go.RowKit
namespace C2
open K

theorem xlc (a b c : BitVec 32) : a ^^^ (b ^^^ c) = b ^^^ (a ^^^ c) := by rw [← BitVec.xor_assoc, BitVec.xor_comm a b, BitVec.xor_assoc]
theorem xself (a b : BitVec 32) : a ^^^ (a ^^^ b) = b := by rw [← BitVec.xor_assoc, BitVec.xor_self, BitVec.zero_xor]
def Px : BitVec 32 := 0xEDB88320#32
/-- A bit moves out of the register. -/
def T1 (c : BitVec 32) : BitVec 32 := (c >>> 1) ^^^ (if c.getLsbD 0 then Px else 0#32)
def Tn : Nat → BitVec 32 → BitVec 32
  | 0, c => c
  | n + 1, c => Tn n (T1 c)
theorem Tn_add (m n : Nat) (c : BitVec 32) : Tn (m + n) c = Tn n (Tn m c) := by
  induction m generalizing c with
  | zero => simp [Tn]
  | succ m ih => rw [show m + 1 + n = (m + n) + 1 by omega]; exact ih (T1 c)
theorem T1_xor (a b : BitVec 32) : T1 (a ^^^ b) = T1 a ^^^ T1 b := by
  have h : ∀ x y : Bool, (if (x ^^ y) = true then Px else 0#32) = (if x = true then Px else 0#32) ^^^ (if y = true then Px else 0#32) := by
    intro x y; cases x <;> cases y <;> simp
  unfold T1
  rw [BitVec.ushiftRight_xor_distrib, BitVec.getLsbD_xor, h]
  simp only [BitVec.xor_assoc]
  rw [xlc (b >>> 1)]
theorem Tn_xor (n : Nat) (a b : BitVec 32) : Tn n (a ^^^ b) = Tn n a ^^^ Tn n b := by
  induction n generalizing a b with
  | zero => rfl
  | succ n ih => simp only [Tn, T1_xor, ih]
theorem Tn_zero (n : Nat) : Tn n 0#32 = 0#32 := by
  induction n with
  | zero => rfl
  | succ n ih => exact ih
theorem T1_null (c : BitVec 32) (h : T1 c = 0#32) : c = 0#32 := by
  have h31 := congrArg (fun x : BitVec 32 => x.getLsbD 31) h
  have h0 : c.getLsbD 0 = false := by
    cases hc : c.getLsbD 0
    · rfl
    · simp [T1, hc, Px] at h31
  have hs : c >>> 1 = 0#32 := by
    unfold T1 at h
    rw [h0] at h
    simpa using h
  apply BitVec.eq_of_getLsbD_eq
  intro i hi
  rcases i with _ | i
  · rw [h0]; simp
  · have := congrArg (fun x : BitVec 32 => x.getLsbD i) hs
    simp only [BitVec.getLsbD_ushiftRight] at this
    rw [show 1 + i = i + 1 by omega] at this
    simpa using this
theorem Tn_null (n : Nat) (c : BitVec 32) (h : Tn n c = 0#32) : c = 0#32 := by
  induction n generalizing c with
  | zero => exact h
  | succ n ih => exact T1_null c (ih (T1 c) h)
theorem xor_eq_zero {a b : BitVec 32} (h : a ^^^ b = 0#32) : a = b := by
  have := congrArg (fun x => x ^^^ b) h
  simpa [BitVec.xor_assoc] using this
theorem Tn_inj (n : Nat) (a b : BitVec 32) (h : Tn n a = Tn n b) : a = b := by
  apply xor_eq_zero
  apply Tn_null n
  rw [Tn_xor, h, BitVec.xor_self]

/-- While noughts fall out the register is only moved. -/
theorem Tn_low (n : Nat) (c : BitVec 32) (h : ∀ i, i < n → c.getLsbD i = false) : Tn n c = c >>> n := by
  induction n generalizing c with
  | zero => simp [Tn]
  | succ n ih =>
    have h0 := h 0 (by omega)
    have e : T1 c = c >>> 1 := by unfold T1; rw [h0]; simp
    simp only [Tn, e]
    rw [ih, ← BitVec.shiftRight_add, show 1 + n = n + 1 by omega]
    intro i hi
    rw [BitVec.getLsbD_ushiftRight]
    exact h (1 + i) (by omega)
def lo (k : Nat) (c : BitVec 32) : BitVec 32 := BitVec.ofNat 32 (c.toNat % 2 ^ k)
theorem lo_get (k : Nat) (c : BitVec 32) (i : Nat) : (lo k c).getLsbD i = (decide (i < k) && c.getLsbD i) := by
  unfold lo
  rw [BitVec.getLsbD_ofNat, Nat.testBit_mod_two_pow, BitVec.testBit_toNat]
  by_cases hi : i < 32
  · simp [hi]
  · simp [hi, BitVec.getLsbD_of_ge c i (by omega)]
theorem Tn_split (k : Nat) (c : BitVec 32) : Tn k c = (c >>> k) ^^^ Tn k (lo k c) := by
  have e : c = (c ^^^ lo k c) ^^^ lo k c := by simp [BitVec.xor_assoc]
  have hl : Tn k (c ^^^ lo k c) = (c ^^^ lo k c) >>> k := by
    apply Tn_low
    intro i hi
    rw [BitVec.getLsbD_xor, lo_get]
    simp [hi]
  have hz : lo k c >>> k = 0#32 := by
    apply BitVec.eq_of_getLsbD_eq
    intro i hi
    rw [BitVec.getLsbD_ushiftRight, lo_get, show decide (k + i < k) = false by simp]
    simp
  conv => lhs; rw [e, Tn_xor, hl, BitVec.ushiftRight_xor_distrib, hz, BitVec.xor_zero]
/-- What was moved up and loses nothing falls back down. -/
theorem Tn_shl (k : Nat) (c : BitVec 32) (h : c.toNat * 2 ^ k < 2 ^ 32) : Tn k (c <<< k) = c := by
  rw [Tn_low]
  · apply BitVec.eq_of_toNat_eq
    rw [BitVec.toNat_ushiftRight, BitVec.toNat_shiftLeft, Nat.shiftLeft_eq, Nat.mod_eq_of_lt h, Nat.shiftRight_eq_div_pow]
    exact Nat.mul_div_cancel _ (Nat.two_pow_pos k)
  · intro i hi
    rw [BitVec.getLsbD_shiftLeft]
    simp [hi]

/-! ### Bytes -/
def w8 (b : UInt8) : BitVec 32 := BitVec.ofNat 32 b.toNat
theorem w8_toNat (b : UInt8) : (w8 b).toNat = b.toNat := by
  have := UInt8.toNat_lt b
  simp [w8]
def stp (c : BitVec 32) (b : UInt8) : BitVec 32 := Tn 8 (c ^^^ w8 b)
def reg (c : BitVec 32) : List UInt8 → BitVec 32
  | [] => c
  | b :: l => reg (stp c b) l
theorem reg_append (c : BitVec 32) (a b : List UInt8) : reg c (a ++ b) = reg (reg c a) b := by
  induction a generalizing c with
  | nil => rfl
  | cons x a ih => exact ih (stp c x)
theorem reg_snoc (c : BitVec 32) (l : List UInt8) (i : Nat) (h : i < l.length) : reg c (l.take (i + 1)) = stp (reg c (l.take i)) l[i] := by
  rw [List.take_succ_eq_append_getElem h, reg_append]
  rfl
theorem reg_xor (c d : BitVec 32) (l : List UInt8) : reg (c ^^^ d) l = reg c l ^^^ Tn (8 * l.length) d := by
  induction l generalizing c d with
  | nil => simp [reg, Tn]
  | cons b l ih =>
    have e : stp (c ^^^ d) b = stp c b ^^^ Tn 8 d := by
      unfold stp
      rw [show c ^^^ d ^^^ w8 b = (c ^^^ w8 b) ^^^ d by rw [BitVec.xor_assoc, BitVec.xor_comm d, ← BitVec.xor_assoc], Tn_xor]
    simp only [reg]
    rw [e, ih, ← Tn_add, List.length_cons]
    congr 2
    omega
/-- The program's half bytes, and the document's step. -/
def hv (i : Nat) : BitVec 32 := Tn 4 (BitVec.ofNat 32 i)
def half (c : BitVec 32) : BitVec 32 := (c >>> 4) ^^^ hv (c.toNat % 16)
theorem half_eq (c : BitVec 32) : half c = Tn 4 c := by rw [Tn_split 4 c]; rfl
theorem half_half (c : BitVec 32) (b : UInt8) : half (half (c ^^^ w8 b)) = stp c b := by
  rw [half_eq, half_eq, ← Tn_add]; rfl
theorem step_eq (c : BitVec 32) (b : UInt8) : (c >>> 8) ^^^ Tn 8 (lo 8 (c ^^^ w8 b)) = stp c b := by
  have h := UInt8.toNat_lt b
  have hz : w8 b >>> 8 = 0#32 := by
    apply BitVec.eq_of_toNat_eq
    rw [BitVec.toNat_ushiftRight, w8_toNat, Nat.shiftRight_eq_div_pow]
    simp; omega
  unfold stp
  rw [Tn_split 8 (c ^^^ w8 b), BitVec.ushiftRight_xor_distrib, hz, BitVec.xor_zero]

def all1 : BitVec 32 := 0xFFFFFFFF#32
theorem not_eq (c : BitVec 32) : ~~~c = c ^^^ all1 := by
  have : all1 = BitVec.allOnes 32 := by decide
  rw [this, BitVec.xor_allOnes]
theorem not_not' (c : BitVec 32) : c ^^^ all1 ^^^ all1 = c := by rw [BitVec.xor_assoc, BitVec.xor_self, BitVec.xor_zero]
/-- The sum of bytes behind a sum, and of bytes. -/
def more (s : BitVec 32) (l : List UInt8) : BitVec 32 := reg (s ^^^ all1) l ^^^ all1
def sum (l : List UInt8) : BitVec 32 := more 0#32 l
theorem more_append (s : BitVec 32) (a b : List UInt8) : more s (a ++ b) = more (more s a) b := by
  unfold more
  rw [reg_append, not_not']
theorem sum_append (a b : List UInt8) : sum (a ++ b) = more (sum a) b := more_append _ a b
theorem join_eq (a b : List UInt8) : sum (a ++ b) = Tn (8 * b.length) (sum a) ^^^ sum b := by
  rw [sum_append]
  unfold sum
  generalize more 0#32 a = s
  unfold more
  rw [show s ^^^ all1 = (0#32 ^^^ all1) ^^^ s by simp [BitVec.xor_comm], reg_xor]
  rw [BitVec.xor_assoc, BitVec.xor_comm, BitVec.xor_assoc, BitVec.xor_comm all1]

/-! ### Joining -/
def one : BitVec 32 := 0x80000000#32
def mul : Nat → BitVec 32 → BitVec 32 → BitVec 32
  | 0, _, _ => 0#32
  | n + 1, a, b => (if a.msb then b else 0#32) ^^^ mul n (a <<< 1) (T1 b)
def hgt : Nat → BitVec 32 → Nat
  | 0, _ => 0
  | n + 1, a => if a = 0#32 then 0 else hgt n (a <<< 1) + 1
theorem shl_shl (a : BitVec 32) (n : Nat) : (a <<< 1) <<< n = a <<< (n + 1) := by rw [← BitVec.shiftLeft_add, Nat.add_comm]
theorem hgt_more (n : Nat) (a : BitVec 32) (h : a <<< n = 0#32) : hgt (n + 1) a = hgt n a := by
  induction n generalizing a with
  | zero => have : a = 0#32 := by simpa using h
            simp [hgt, this]
  | succ n ih =>
    show (if a = 0#32 then 0 else hgt (n + 1) (a <<< 1) + 1) = (if a = 0#32 then 0 else hgt n (a <<< 1) + 1)
    rw [ih (a <<< 1) (by rw [shl_shl]; exact h)]
theorem hgt_lt (a : BitVec 32) (h : a ≠ 0#32) : hgt 32 (a <<< 1) < hgt 32 a := by
  have e : (a <<< 1) <<< 31 = 0#32 := by rw [shl_shl]; simp
  have h1 : hgt 32 (a <<< 1) = hgt 31 (a <<< 1) := hgt_more 31 _ e
  have h2 : hgt 32 a = hgt 31 (a <<< 1) + 1 := by show (if a = 0#32 then 0 else hgt 31 (a <<< 1) + 1) = _; rw [if_neg h]
  omega
theorem mul_zero (n : Nat) (b : BitVec 32) : mul n 0#32 b = 0#32 := by
  induction n generalizing b with
  | zero => rfl
  | succ n ih => simp [mul, ih]
theorem mul_more (n : Nat) (a b : BitVec 32) (h : a <<< n = 0#32) : mul (n + 1) a b = mul n a b := by
  induction n generalizing a b with
  | zero => have : a = 0#32 := by simpa using h
            rw [this, mul_zero, mul_zero]
  | succ n ih =>
    show (if a.msb then b else 0#32) ^^^ mul (n + 1) (a <<< 1) (T1 b) = (if a.msb then b else 0#32) ^^^ mul n (a <<< 1) (T1 b)
    rw [ih (a <<< 1) (T1 b) (by rw [shl_shl]; exact h)]
def tms (a b : BitVec 32) : BitVec 32 := mul 32 a b
theorem tms_step (a b : BitVec 32) : tms a b = (if a.msb then b else 0#32) ^^^ tms (a <<< 1) (T1 b) := by
  have e : (a <<< 1) <<< 31 = 0#32 := by rw [shl_shl]; simp
  show (if a.msb then b else 0#32) ^^^ mul 31 (a <<< 1) (T1 b) = _ ^^^ mul 32 (a <<< 1) (T1 b)
  rw [mul_more 31 _ _ e]
theorem tms_zero (b : BitVec 32) : tms 0#32 b = 0#32 := mul_zero 32 b
theorem T1_Tn (m : Nat) (b : BitVec 32) : T1 (Tn m b) = Tn m (T1 b) := by
  have h1 := Tn_add m 1 b
  have h2 := Tn_add 1 m b
  rw [Nat.add_comm] at h1
  exact h1.symm.trans h2
theorem mul_Tn (n m : Nat) (a b : BitVec 32) : mul n a (Tn m b) = Tn m (mul n a b) := by
  induction n generalizing a b with
  | zero => exact (Tn_zero m).symm
  | succ n ih =>
    rw [mul, mul, Tn_xor, T1_Tn, ih]
    cases a.msb <;> simp [Tn_zero]
theorem T1_pow (n : Nat) (h : n + 1 < 32) : T1 (1#32 <<< (n + 1)) = 1#32 <<< n := by
  have hf : ∀ k : Fin 31, T1 (1#32 <<< (k.val + 1)) = 1#32 <<< k.val := by decide +kernel
  exact hf ⟨n, by omega⟩
theorem mul_pow (n : Nat) (h : n < 32) (a : BitVec 32) : mul (n + 1) a (1#32 <<< n) = a >>> (31 - n) := by
  induction n generalizing a with
  | zero =>
    simp only [mul, BitVec.xor_zero]
    apply BitVec.eq_of_getLsbD_eq
    intro i hi
    rw [BitVec.getLsbD_ushiftRight, BitVec.msb_eq_getLsbD_last]
    show _ = a.getLsbD (31 - 0 + i)
    rcases i with _ | i
    · show (if a.getLsbD 31 = true then 1#32 <<< 0 else 0#32).getLsbD 0 = a.getLsbD 31
      cases a.getLsbD 31 <;> simp
    · rw [BitVec.getLsbD_of_ge a (31 - 0 + (i + 1)) (by omega)]
      show (if a.getLsbD 31 = true then 1#32 <<< 0 else 0#32).getLsbD (i + 1) = false
      cases a.getLsbD 31 <;> simp
  | succ n ih =>
    rw [mul, T1_pow n h, ih (by omega)]
    apply BitVec.eq_of_getLsbD_eq
    intro i hi
    rw [BitVec.getLsbD_xor, BitVec.getLsbD_ushiftRight, BitVec.getLsbD_ushiftRight, BitVec.getLsbD_shiftLeft, BitVec.msb_eq_getLsbD_last]
    have e1 : (31 - n + i) - 1 = 31 - (n + 1) + i := by omega
    have e2 : ¬ (31 - n + i < 1) := by omega
    rw [e1]
    have hif : (if a.getLsbD (32 - 1) = true then 1#32 <<< (n + 1) else 0#32).getLsbD i = (a.getLsbD 31 && decide (i = n + 1)) := by
      cases h31 : a.getLsbD 31
      · simp
      · simp only [if_true, BitVec.getLsbD_shiftLeft, Bool.true_and]
        have ho : ∀ j : Nat, (1#32).getLsbD j = decide (j = 0) := by
          intro j
          rcases j with _ | j
          · rfl
          · simp
        rw [ho]
        by_cases hin : i = n + 1
        · subst hin; simp; omega
        · by_cases hlt : i < n + 1
          · simp [hlt, hin]
          · simp [hin]; omega
    rw [hif]
    by_cases hin : i = n + 1
    · subst hin
      rw [show 31 - (n + 1) + (n + 1) = 31 by omega]
      have : ¬ (31 - n + (n + 1) < 32) := by omega
      simp [this]
    · by_cases hlt : i ≤ n
      · have : 31 - n + i < 32 := by omega
        simp [hin, this, e2]
      · have : ¬ (31 - n + i < 32) := by omega
        rw [BitVec.getLsbD_of_ge a (31 - (n + 1) + i) (by omega)]
        simp [hin, this]
theorem tms_one (a : BitVec 32) : tms a one = a := by
  have h := mul_pow 31 (by omega) a
  have e : one = 1#32 <<< 31 := by decide
  show mul (31 + 1) a one = a
  rw [e, h]
  simp
theorem tms_Tn (a : BitVec 32) (m : Nat) : tms a (Tn m one) = Tn m a := by
  show mul 32 a (Tn m one) = _
  rw [mul_Tn]
  exact congrArg (Tn m) (tms_one a)
theorem eight_eq : (8388608#32 : BitVec 32) = Tn 8 one := by decide +kernel

/-! ### A sum as bytes; bits that are turned -/
def leb (c : BitVec 32) (i : Nat) : UInt8 := b8 (c.toNat / 256 ^ i % 256)
def le4 (c : BitVec 32) : List UInt8 := [leb c 0, leb c 1, leb c 2, leb c 3]
def num : List UInt8 → Nat
  | [] => 0
  | b :: l => b.toNat + 256 * num l
theorem num_lt (l : List UInt8) : num l < 2 ^ (8 * l.length) := by
  induction l with
  | nil => simp [num]
  | cons b l ih =>
    have := UInt8.toNat_lt b
    rw [num, List.length_cons, show 8 * (l.length + 1) = 8 * l.length + 8 by omega, Nat.pow_add]
    omega
theorem num_xor (b : UInt8) (n : Nat) : BitVec.ofNat 32 (b.toNat + 256 * n) = w8 b ^^^ (BitVec.ofNat 32 n <<< 8) := by
  have hb := UInt8.toNat_lt b
  apply BitVec.eq_of_getLsbD_eq
  intro i hi
  rw [BitVec.getLsbD_xor, BitVec.getLsbD_shiftLeft, w8, BitVec.getLsbD_ofNat, BitVec.getLsbD_ofNat, BitVec.getLsbD_ofNat, show b.toNat + 256 * n = 2 ^ 8 * n + b.toNat by omega, Nat.testBit_two_pow_mul_add n hb]
  by_cases h8 : i < 8
  · simp [hi, h8]
  · have : b.toNat.testBit i = false := Nat.testBit_lt_two_pow (Nat.lt_of_lt_of_le hb (Nat.pow_le_pow_right (by omega) (by omega : 8 ≤ i)))
    have hi2 : i - 8 < 32 := by omega
    simp [hi, h8, this, hi2]
theorem reg_num (l : List UInt8) (c : BitVec 32) (h : l.length ≤ 4) : reg c l = Tn (8 * l.length) (c ^^^ BitVec.ofNat 32 (num l)) := by
  induction l generalizing c with
  | nil => simp [reg, num, Tn]
  | cons b l ih =>
    have hl : l.length ≤ 3 := by simpa using h
    have hn : num l < 2 ^ 24 := Nat.lt_of_lt_of_le (num_lt l) (Nat.pow_le_pow_right (by omega) (by omega))
    have e : BitVec.ofNat 32 (num l) = Tn 8 (BitVec.ofNat 32 (num l) <<< 8) := by
      rw [Tn_shl]
      simp
      omega
    rw [reg, ih _ (by omega)]
    conv => lhs; rw [e]
    rw [stp, ← Tn_xor, ← Tn_add, num, num_xor, BitVec.xor_assoc, List.length_cons]
    congr 1
    omega
theorem le4_num (c : BitVec 32) : num (le4 c) = c.toNat := by
  have := c.isLt
  simp only [le4, num, leb]
  rw [b8_toNat _ (by omega), b8_toNat _ (by omega), b8_toNat _ (by omega), b8_toNat _ (by omega)]
  omega
theorem num_inj : ∀ (a b : List UInt8), a.length = b.length → num a = num b → a = b
  | [], [], _, _ => rfl
  | x :: a, y :: b, hl, hn => by
    have hx := UInt8.toNat_lt x
    have hy := UInt8.toNat_lt y
    simp only [num] at hn
    have : x = y := UInt8.toNat_inj.1 (by omega)
    rw [this, num_inj a b (by simpa using hl) (by omega)]
  | [], y :: b, hl, _ => by simp at hl
  | x :: a, [], hl, _ => by simp at hl
/-- The register behind bytes and their own sum. -/
def rest : BitVec 32 := Tn 32 all1
def F (l : List UInt8) : BitVec 32 := reg all1 l
theorem sum_F (l : List UInt8) : sum l = F l ^^^ all1 := by simp [sum, more, F]
theorem tagged (l q : List UInt8) (hq : q.length = 4) : le4 (sum l) = q ↔ F (l ++ q) = rest := by
  have hF : F (l ++ q) = Tn 32 (F l ^^^ BitVec.ofNat 32 (num q)) := by
    unfold F
    rw [reg_append, reg_num _ _ (by omega), hq]
  have hnq : num q < 2 ^ 32 := by have := num_lt q; rw [hq] at this; exact this
  rw [hF]
  constructor
  · intro h
    have : num q = (sum l).toNat := by rw [← h, le4_num]
    rw [this, BitVec.ofNat_toNat, BitVec.setWidth_eq, sum_F]
    unfold rest
    congr 1
    rw [← BitVec.xor_assoc, BitVec.xor_self, BitVec.zero_xor]
  · intro h
    have h2 := Tn_inj 32 _ _ h
    have h3 : BitVec.ofNat 32 (num q) = sum l := by
      rw [sum_F, ← h2, ← BitVec.xor_assoc, BitVec.xor_self, BitVec.zero_xor]
    apply num_inj _ _ (by rw [hq]; rfl)
    rw [le4_num, ← h3, BitVec.toNat_ofNat, Nat.mod_eq_of_lt hnq]

theorem Tn_bit (j : Nat) (h : j < 8) : Tn j (1#32 <<< j) = 1#32 := by
  apply Tn_shl
  have : 2 ^ j ≤ 2 ^ 7 := Nat.pow_le_pow_right (by omega) (by omega)
  simp; omega
theorem w8_xor (a b : UInt8) : w8 (a ^^^ b) = w8 a ^^^ w8 b := by
  apply BitVec.eq_of_toNat_eq
  rw [BitVec.toNat_xor, w8_toNat, w8_toNat, w8_toNat, UInt8.toNat_xor]
/-- A bit turned. -/
theorem F_flip (l : List UInt8) (k j : Nat) (hk : k < l.length) (hj : j < 8) (x : UInt8) (hx : w8 x = w8 l[k] ^^^ (1#32 <<< j)) :
    F (l.set k x) = F l ^^^ Tn (8 * l.length - (8 * k + j)) 1#32 := by
  have e : l = l.take k ++ l[k] :: l.drop (k + 1) := by simp
  have e2 : l.set k x = l.take k ++ x :: l.drop (k + 1) := by rw [List.set_eq_take_append_cons_drop, if_pos hk]
  unfold F
  rw [e2, reg_append, reg]
  conv => rhs; arg 1; rw [e, reg_append, reg]
  have hs : stp (reg all1 (l.take k)) x = stp (reg all1 (l.take k)) l[k] ^^^ Tn 8 (1#32 <<< j) := by
    unfold stp
    rw [hx, ← BitVec.xor_assoc, Tn_xor]
  have h8 : Tn 8 (1#32 <<< j) = Tn (8 - j) 1#32 := by
    rw [show 8 = j + (8 - j) by omega, Tn_add, Tn_bit j hj, show j + (8 - j) - j = 8 - j by omega]
  rw [hs, reg_xor, h8, ← Tn_add]
  congr 2
  rw [List.length_drop]
  omega
/-- The first bits of those that are turned. -/
theorem lo_succ (i : Nat) (hi : i < 32) (c : BitVec 32) : lo (i + 1) c = lo i c ^^^ (if c.getLsbD i then 1#32 <<< i else 0#32) := by
  apply BitVec.eq_of_getLsbD_eq
  intro j hj
  have ho : ∀ m : Nat, (1#32).getLsbD m = decide (m = 0) := by
    intro m
    rcases m with _ | m
    · rfl
    · simp
  rw [BitVec.getLsbD_xor, lo_get, lo_get]
  by_cases hji : j = i
  · subst hji
    cases c.getLsbD j
    · simp
    · simp [hj]
  · have hz : (if c.getLsbD i then 1#32 <<< i else 0#32).getLsbD j = false := by
      cases hc : c.getLsbD i
      · simp
      · simp only [if_true, BitVec.getLsbD_shiftLeft, ho]
        by_cases hlt : j < i
        · simp [hlt]
        · have : j - i ≠ 0 := by omega
          simp [this]
    rw [hz]
    have : (j < i + 1) = (j < i) := by apply propext; omega
    simp [this]
theorem Tn_shift (N i : Nat) (hi : i < 32) (h : i ≤ N) : Tn N (1#32 <<< i) = Tn (N - i) 1#32 := by
  rw [show N = i + (N - i) by omega, Tn_add, Tn_shl]
  · congr 1; omega
  · have : 2 ^ i ≤ 2 ^ 31 := Nat.pow_le_pow_right (by omega) (by omega)
    simp; omega
end C2
end Go.Proofs.YtengpepapoainaaDoor
