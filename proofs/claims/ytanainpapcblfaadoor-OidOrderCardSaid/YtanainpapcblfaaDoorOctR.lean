/- Plain mathematics of layer 1: what is read was written, and the other way round. Nothing of the program. -/
import Derived.Test.YtanainpapcblfaaDoorOctQ
namespace Go.Proofs.YtanainpapcblfaaDoor
open K
namespace P1

theorem b8_of (b : UInt8) (n : Nat) (h : n = b.toNat) : b8 n = b := by
  subst h; unfold b8; simp
theorem low_up (i : Nat) : ∀ (k n : Nat), n < 128 ^ i → low (i + k) n = low i n := by
  intro k
  induction k with
  | zero => intro n _; rfl
  | succ k ih =>
    intro n h
    rw [show i + (k + 1) = (i + k) + 1 by omega, low_more (i + k) n (Nat.lt_of_lt_of_le h (Nat.pow_le_pow_right (by omega) (by omega))), ih n h]

/-- What groups tell was written so. -/
theorem rgo_grp (l : List UInt8) (most : Int) : ∀ (f i n : Nat), i + f = 9 → n < 128 ^ i → i ≤ l.length → l.take i = low i n → (0 < i → 0 < n) → (0 < i → ¬ byt l 0 = 128) →
    (rgo l most f i n).2.2 = 0 → grp (rgo l most f i n).1 = l.take (rgo l most f i n).2.1 := by
  intro f
  induction f with
  | zero => intro i n _ _ _ _ _ _ h; simp [rgo] at h
  | succ f ih =>
    intro i n hi hn hil ht hp hb h
    by_cases h1 : l.length ≤ i
    · unfold rgo at h; rw [if_pos h1] at h; simp at h
    · have hlt : i < l.length := by omega
      by_cases h2 : i = 0 ∧ byt l 0 = 128
      · unfold rgo at h; rw [if_neg h1, if_pos h2] at h; simp at h
      · by_cases h3 : most < ((n * 128 + byt l i % 128 : Nat) : Int)
        · rw [rgo_long l most f i n hlt h2 h3] at h; simp at h
        · have hbt := byt_lt l i
          have hget := byt_get l i hlt
          by_cases h4 : byt l i < 128
          · rw [rgo_done l most f i n hlt h2 h3 h4]
            simp only [grp]
            rw [show (n * 128 + byt l i % 128) / 128 = n by omega, show (n * 128 + byt l i % 128) % 128 = byt l i by omega]
            rw [List.take_succ_eq_append_getElem hlt, ht, show (8 : Nat) = i + (8 - i) by omega, low_up i (8 - i) n hn, b8_of l[i] _ hget]
          · rw [rgo_more l most f i n hlt h2 h3 h4] at h ⊢
            have hn' : 0 < n * 128 + byt l i % 128 := by
              rcases Nat.eq_zero_or_pos i with h0 | h0
              · subst h0
                have : ¬ byt l 0 = 128 := fun e => h2 ⟨rfl, e⟩
                omega
              · have := hp h0; omega
            refine ih (i + 1) _ (by omega) (by rw [Nat.pow_succ]; omega) (by omega) ?_ (fun _ => hn') ?_ h
            · rw [List.take_succ_eq_append_getElem hlt, ht, low_step i _ hn', show (n * 128 + byt l i % 128) / 128 = n by omega, show (n * 128 + byt l i % 128) % 128 = byt l i % 128 by omega, b8_of l[i] _ (by rw [← hget]; omega)]
            · intro _
              rcases Nat.eq_zero_or_pos i with h0 | h0
              · subst h0; exact fun e => h2 ⟨rfl, e⟩
              · exact hb h0
theorem rgo_grp0 (l : List UInt8) (most : Int) (h : (rgo l most 9 0 0).2.2 = 0) : grp (rgo l most 9 0 0).1 = l.take (rgo l most 9 0 0).2.1 :=
  rgo_grp l most 9 0 0 (by omega) (by omega) (by omega) (by simp [low]) (by omega) (by omega) h

theorem byt_app (a t : List UInt8) (b : UInt8) : byt (a ++ ([b] ++ t)) a.length = b.toNat := by
  unfold byt; rw [List.getElem?_append_right (Nat.le_refl _), Nat.sub_self]; rfl
theorem low_nil (g q : Nat) (h : q < 128 ^ g) (hl : (low g q).length = 0) : q = 0 := by
  rcases g with _ | g
  · simp at h; omega
  · unfold low at hl
    split at hl
    · assumption
    · simp at hl
/-- The groups' first bytes are read so. -/
theorem rgo_low (most : Int) : ∀ (g q : Nat) (t : List UInt8), g ≤ 8 → q < 128 ^ g → (q : Int) ≤ most →
    rgo (low g q ++ t) most 9 0 0 = rgo (low g q ++ t) most (9 - (low g q).length) (low g q).length q := by
  intro g
  induction g with
  | zero => intro q t _ hq _; obtain rfl : q = 0 := by simp at hq; omega
            simp [low]
  | succ g ih =>
    intro q t hg hq hm
    by_cases h0 : q = 0
    · subst h0; simp [low]
    · have hs := low_step g q (by omega)
      have hq2 : q / 128 < 128 ^ g := by rw [Nat.pow_succ] at hq; omega
      have h := ih (q / 128) ([b8 (q % 128 + 128)] ++ t) (by omega) hq2 (by omega)
      have hlen := low_length g (q / 128)
      have hb : byt (low g (q / 128) ++ ([b8 (q % 128 + 128)] ++ t)) (low g (q / 128)).length = q % 128 + 128 := by
        rw [byt_app]; exact b8_toNat _ (by omega)
      have h2 : ¬ ((low g (q / 128)).length = 0 ∧ byt (low g (q / 128) ++ ([b8 (q % 128 + 128)] ++ t)) 0 = 128) := by
        rintro ⟨e1, e2⟩
        rw [e1] at hb
        have := low_nil g (q / 128) hq2 e1
        omega
      rw [hs, List.append_assoc, h, show 9 - (low g (q / 128)).length = (8 - (low g (q / 128)).length) + 1 by omega]
      rw [rgo_more _ most _ _ _ (by simp) h2 (by rw [hb]; omega) (by rw [hb]; omega)]
      rw [hb, show q / 128 * 128 + (q % 128 + 128) % 128 = q by omega]
      simp
/-- There and back. -/
theorem rgo_back (n : Nat) (t : List UInt8) (most : Int) (hn : n < 9223372036854775808) (hm : (n : Int) ≤ most) : rgo (grp n ++ t) most 9 0 0 = (n, (grp n).length, 0) := by
  have hq : n / 128 < 128 ^ 8 := by omega
  have h := rgo_low most 8 (n / 128) ([b8 (n % 128)] ++ t) (by omega) hq (by omega)
  have hlen := low_length 8 (n / 128)
  have hb : byt (low 8 (n / 128) ++ ([b8 (n % 128)] ++ t)) (low 8 (n / 128)).length = n % 128 := by
    rw [byt_app]; exact b8_toNat _ (by omega)
  have h2 : ¬ ((low 8 (n / 128)).length = 0 ∧ byt (low 8 (n / 128) ++ ([b8 (n % 128)] ++ t)) 0 = 128) := by
    rintro ⟨e1, e2⟩
    rw [e1] at hb
    omega
  unfold grp
  rw [List.append_assoc, h, show 9 - (low 8 (n / 128)).length = (8 - (low 8 (n / 128)).length) + 1 by omega]
  rw [rgo_done _ most _ _ _ (by simp) h2 (by rw [hb]; omega) (by rw [hb]; omega)]
  rw [hb, show n / 128 * 128 + n % 128 % 128 = n by omega]
  simp
/-- No groups begin others. -/
theorem grp_prefix (n m : Nat) (hn : n < 9223372036854775808) (hm : m < 9223372036854775808) (h : (grp m).take (grp n).length = grp n) : n = m := by
  have e : grp m = grp n ++ (grp m).drop (grp n).length := by conv => lhs; rw [← List.take_append_drop (grp n).length (grp m), h]
  have h1 := rgo_back n ((grp m).drop (grp n).length) 9223372036854775807 hn (by omega)
  have h2 := rgo_back m [] 9223372036854775807 hm (by omega)
  rw [← e] at h1
  rw [List.append_nil, h1] at h2
  exact (Prod.mk.inj h2).1

/-- 'n & 0x7fffffffffffffff'. -/
def low63 (n : Int) : Nat := (n % 9223372036854775808).toNat
theorem low63_lt (n : Int) : low63 n < 9223372036854775808 := by unfold low63; omega
theorem bits_low63 (n : Int) : bits .and .i64 n 9223372036854775807 = (low63 n : Nat) := by
  have h2 : (BitVec.ofInt 64 n).toNat = (n % 18446744073709551616).toNat := by rw [BitVec.toNat_ofInt]; rfl
  have h3 : (BitVec.ofInt 64 9223372036854775807).toNat = 2 ^ 63 - 1 := by decide +kernel
  have h4 : bits .and .i64 n 9223372036854775807 = IntKind.i64.wrap (((BitVec.ofInt 64 n).toNat &&& (BitVec.ofInt 64 9223372036854775807).toNat : Nat) : Int) := by
    show IntKind.i64.wrap (((BitVec.ofInt 64 n &&& BitVec.ofInt 64 9223372036854775807).toNat : Nat) : Int) = _
    rw [BitVec.toNat_and]
  rw [h4, h2, h3, Nat.and_two_pow_sub_one_eq_mod, IntKind.wrap_i64]
  unfold low63
  omega
end P1
end Go.Proofs.YtanainpapcblfaaDoor
