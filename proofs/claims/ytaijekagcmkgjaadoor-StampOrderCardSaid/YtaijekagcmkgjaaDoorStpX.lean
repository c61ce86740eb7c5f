/- Plain mathematics: a stamp that is printed is read as it was. Nothing of the program. -/
import Derived.Test.YtaijekagcmkgjaaDoorStpU
import Derived.Test.YtaijekagcmkgjaaDoorStpT
namespace Go.Proofs.YtaijekagcmkgjaaDoor
open K
namespace S3
set_option linter.unusedVariables false

/-! ### Pieces -/
theorem dg2 (x : Nat) : ∃ a b, dg 2 x = [a, b] := by
  have h := dg_len 2 x
  match hl : dg 2 x, h with
  | [a, b], _ => exact ⟨a, b, rfl⟩
theorem dg4 (x : Nat) : ∃ a b c d, dg 4 x = [a, b, c, d] := by
  have h := dg_len 4 x
  match hl : dg 4 x, h with
  | [a, b, c, d], _ => exact ⟨a, b, c, d, rfl⟩
theorem numI_dg (k x : Nat) (hk : 0 < k) (hx : x < 10 ^ k) : numI (dg k x) = x := by
  rw [numI_yes _ (dg_all k x) (by rw [dg_len]; exact hk), dg_vl, Nat.mod_eq_of_lt hx]
/-- What stands where in a text that begins with a date and a clock. -/
theorem txt_parts (y m d s : Nat) (R : List UInt8) (hy : y < 10000) (hm : m < 100) (hd : d < 100) (hR : 0 < R.length) :
    Seps (dtx y m d ++ (84 :: (clk s ++ R))) ∧ gY (dtx y m d ++ (84 :: (clk s ++ R))) = y ∧ gM (dtx y m d ++ (84 :: (clk s ++ R))) = m ∧ gD (dtx y m d ++ (84 :: (clk s ++ R))) = d ∧
    gH (dtx y m d ++ (84 :: (clk s ++ R))) = (s / 60 % 1440 / 60 : Nat) ∧ gI (dtx y m d ++ (84 :: (clk s ++ R))) = (s / 60 % 1440 % 60 : Nat) ∧ gC (dtx y m d ++ (84 :: (clk s ++ R))) = (s % 60 : Nat) ∧ (dtx y m d ++ (84 :: (clk s ++ R))).drop 19 = R := by
  have n1 := numI_dg 4 y (by omega) hy
  have n2 := numI_dg 2 m (by omega) hm
  have n3 := numI_dg 2 d (by omega) hd
  have n4 := numI_dg 2 (s / 60 % 1440 / 60) (by omega) (by omega)
  have n5 := numI_dg 2 (s / 60 % 1440 % 60) (by omega) (by omega)
  have n6 := numI_dg 2 (s % 60) (by omega) (by omega)
  obtain ⟨a1, a2, a3, a4, e1⟩ := dg4 y
  obtain ⟨b1, b2, e2⟩ := dg2 m
  obtain ⟨c1, c2, e3⟩ := dg2 d
  obtain ⟨d1, d2, e4⟩ := dg2 (s / 60 % 1440 / 60)
  obtain ⟨f1, f2, e5⟩ := dg2 (s / 60 % 1440 % 60)
  obtain ⟨g1, g2, e6⟩ := dg2 (s % 60)
  have e : dtx y m d ++ (84 :: (clk s ++ R)) = a1 :: a2 :: a3 :: a4 :: 45 :: b1 :: b2 :: 45 :: c1 :: c2 :: 84 :: d1 :: d2 :: 58 :: f1 :: f2 :: 58 :: g1 :: g2 :: R := by
    unfold dtx clk hmt
    rw [e1, e2, e3, e4, e5, e6]
    rfl
  rw [e]
  rw [e1] at n1; rw [e2] at n2; rw [e3] at n3; rw [e4] at n4; rw [e5] at n5; rw [e6] at n6
  exact ⟨⟨by simp; omega, rfl, rfl, rfl, rfl, rfl⟩, n1, n2, n3, n4, n5, n6, rfl⟩
/-- A text with a right date and clock, and what is right behind them, is read. -/
theorem read_txt (y m d s : Nat) (R : List UInt8) (hs : s ≤ 2305950000) (hd : IsD (s / 86400) y m d) (hR : 0 < R.length) (hf : fOk R = true) (hz : rzOk (fL R) = true)
    (t : Nat) (ht : (t : Int) = (s : Int) - rzV (fL R) * 60) (h61 : t * 1000000000 + fV R ≤ 2305843009213693952) :
    prsV (dtx y m d ++ (84 :: (clk s ++ R))) = (t * 1000000000 + fV R : Nat) ∧ prsC (dtx y m d ++ (84 :: (clk s ++ R))) = 0 := by
  have hy := hd.y1 (by omega)
  have hd1 := hd.d1
  have hm1 := hd.m1; have hm2 := hd.m2; have hdd := hd.dd
  obtain ⟨sp, gy, gm, gd, gh, gi, gc, hdr⟩ := txt_parts y m d s R (by omega) (by omega) (by omega) hR
  generalize dtx y m d ++ (84 :: (clk s ++ R)) = l at *
  have ty : (gY l).toNat = y := by rw [gy]; rfl
  have tm : (gM l).toNat = m := by rw [gm]; rfl
  have n5 : Nums5 l := ⟨by omega, by omega, by omega, by omega, by rw [ty, tm, gd]; exact hd1.2.1, by omega, by omega, by omega, by omega, by omega, by omega⟩
  rw [← hdr] at hf hz
  obtain ⟨ok, vS, vF⟩ := p_mk sp n5 hf hz
  rw [ty, tm, gd, gh, gi, gc, hdr] at vS
  rw [hdr] at vF
  have hS : pS l = t := by rw [vS]; omega
  have g : pGood l = true := by
    unfold pGood
    rw [ok, hS, vF, decide_eq_true (by omega : (0 : Int) ≤ t), decide_eq_true (by omega : (t : Int) ≤ 2305843009), decide_eq_true (by omega : (t : Int) * 1000000000 + (fV R : Nat) ≤ 2305843009213693952)]
    rfl
  unfold prsV prsC
  rw [g, hS, vF]
  exact ⟨by simp, rfl⟩
/-- .. and what is not, isn't. -/
theorem unread_txt (y m d s : Nat) (R : List UInt8) (hy : y < 10000) (hm : m < 100) (hd : d < 100) (hR : 0 < R.length) (h : fOk R = false ∨ rzOk (fL R) = false) :
    prsV (dtx y m d ++ (84 :: (clk s ++ R))) = 0 ∧ prsC (dtx y m d ++ (84 :: (clk s ++ R))) = 30 := by
  obtain ⟨sp, gy, gm, gd, gh, gi, gc, hdr⟩ := txt_parts y m d s R hy hm hd hR
  refine p_not fun hh => ?_
  rw [hdr] at hh
  rcases h with h | h
  · rw [hh.2.2.1] at h; cases h
  · rw [hh.2.2.2] at h; cases h

/-! ### Behind the seconds -/
theorem vlG_lin (l : List UInt8) : ∀ n, vlG n l = n * 10 ^ l.length + vlG 0 l := by
  induction l with
  | nil => intro n; show n = n * 10 ^ 0 + 0; rw [Nat.pow_zero]; omega
  | cons c t ih =>
    intro n
    unfold vlG
    rw [ih (10 * n + (c.toNat - 48)), ih (10 * 0 + (c.toNat - 48)), List.length_cons, Nat.pow_succ, Nat.add_mul, Nat.add_mul]
    have : 10 * n * 10 ^ t.length = n * (10 ^ t.length * 10) := by rw [Nat.mul_comm (10 ^ t.length) 10, ← Nat.mul_assoc, Nat.mul_comm 10 n]
    omega
theorem vl_zeros (D : List UInt8) (j : Nat) : vl (D ++ List.replicate j 48) = vl D * 10 ^ j := by
  induction j with
  | zero => simp
  | succ j ih =>
    rw [List.replicate_succ', ← List.append_assoc, vl_snoc, ih, Nat.pow_succ]
    have h : 10 * (vl D * 10 ^ j) = vl D * (10 ^ j * 10) := by rw [Nat.mul_comm (10 ^ j) 10, Nat.mul_left_comm]
    rw [← h]; rfl
theorem vl_pad (j : Nat) (X : List UInt8) : vl (List.replicate j 48 ++ X) = vl X := by
  unfold vl
  rw [vlG_app]
  have : vlG 0 (List.replicate j 48) = 0 := by
    have h := vl_zeros [] j
    rw [List.nil_append, show vl [] = 0 from rfl, Nat.zero_mul] at h
    exact h
  rw [this]
def swdP : List UInt8 → Bool
  | [] => false
  | c :: _ => isD c
theorem fGo_app (Z : List UInt8) : ∀ (D : List UInt8) (p n : Nat), D.all isD = true → D.length ≤ p → (swdP Z = false ∨ D.length = p) →
    fGo p n (D ++ Z) = (n + vl D * 10 ^ (p - D.length), p - D.length, Z)
  | [], p, n, _, _, h => by
    have e : vl [] = 0 := rfl
    rw [e, Nat.zero_mul, Nat.add_zero, List.length_nil, Nat.sub_zero, List.nil_append]
    cases p with
    | zero => rfl
    | succ p =>
      rcases h with h | h
      · cases Z with
        | nil => rfl
        | cons c t => have h' : isD c = false := h; simp [fGo, h']
      · simp at h
  | c :: t, p, n, ha, hl, h => by
    rw [List.all_cons, Bool.and_eq_true] at ha
    obtain ⟨q, rfl⟩ : ∃ q, p = q + 1 := ⟨p - 1, by simp at hl; omega⟩
    have hl' : t.length ≤ q := by simpa using hl
    have ih := fGo_app Z t q (n + (c.toNat - 48) * 10 ^ q) ha.2 hl' (by rcases h with h | h; exact Or.inl h; right; simpa using h)
    rw [List.cons_append]
    unfold fGo
    rw [if_pos ha.1, ih]
    have hv : vl (c :: t) = (c.toNat - 48) * 10 ^ t.length + vl t := by
      show vlG (10 * 0 + (c.toNat - 48)) t = _
      rw [vlG_lin]; simp [vl]
    have hp : 10 ^ q = 10 ^ t.length * 10 ^ (q - t.length) := by rw [← Nat.pow_add]; congr 1; omega
    rw [hv, List.length_cons, Nat.add_sub_add_right, Nat.add_mul, hp, Nat.mul_assoc]
    simp [Nat.add_assoc]
theorem trim_pad (l : List UInt8) (c : UInt8) : ∃ j, l = Lib.trimRightB l c ++ List.replicate j c := by
  have h := List.takeWhile_append_dropWhile (p := fun x => x == c) (l := l.reverse)
  have ht : l.reverse.takeWhile (fun x => x == c) = List.replicate (l.reverse.takeWhile (fun x => x == c)).length c := by
    refine List.eq_replicate_iff.2 ⟨rfl, fun b hb => ?_⟩
    have := List.all_eq_true.1 (List.all_takeWhile (p := fun x => x == c) (l := l.reverse)) b hb
    simpa using this
  refine ⟨(l.reverse.takeWhile (fun x => x == c)).length, ?_⟩
  have h2 := congrArg List.reverse h
  rw [List.reverse_reverse, List.reverse_append] at h2
  conv => lhs; rw [← h2]
  unfold Lib.trimRightB
  congr 1
  rw [ht]; simp
/-- The digits of a second's part, without the noughts behind: what they spell. -/
theorem frc_digits (n : Nat) (h0 : n ≠ 0) (hn : n < 1000000000) : (Lib.trimRightB (dg 9 n) 48).all isD = true ∧ 1 ≤ (Lib.trimRightB (dg 9 n) 48).length ∧ (Lib.trimRightB (dg 9 n) 48).length ≤ 9 ∧
    vl (Lib.trimRightB (dg 9 n) 48) * 10 ^ (9 - (Lib.trimRightB (dg 9 n) 48).length) = n := by
  obtain ⟨j, hj⟩ := trim_pad (dg 9 n) 48
  have hl := congrArg List.length hj
  rw [dg_len, List.length_append, List.length_replicate] at hl
  have hv := congrArg vl hj
  rw [dg_vl, Nat.mod_eq_of_lt hn, vl_zeros] at hv
  have ha := congrArg (fun x : List UInt8 => x.all isD) hj
  simp only [dg_all, List.all_append] at ha
  have hv2 : vl (Lib.trimRightB (dg 9 n) 48) * 10 ^ (9 - (Lib.trimRightB (dg 9 n) 48).length) = n := by
    rw [show 9 - (Lib.trimRightB (dg 9 n) 48).length = j by omega]; exact hv.symm
  refine ⟨?_, ?_, by omega, hv2⟩
  · cases hk : (Lib.trimRightB (dg 9 n) 48).all isD
    · rw [hk] at ha; simp at ha
    · rfl
  · rcases Nat.eq_zero_or_pos (Lib.trimRightB (dg 9 n) 48).length with h | h
    · exfalso
      have e : Lib.trimRightB (dg 9 n) 48 = [] := List.eq_nil_of_length_eq_zero h
      rw [e] at hv
      exact h0 (by rw [hv]; show 0 * 10 ^ j = 0; simp)
    · exact h
theorem fr_digits (D Z : List UInt8) (ha : D.all isD = true) (h1 : 1 ≤ D.length) (h9 : D.length ≤ 9) (hz : swdP Z = false ∨ D.length = 9) :
    fV (46 :: (D ++ Z)) = vl D * 10 ^ (9 - D.length) ∧ fL (46 :: (D ++ Z)) = Z ∧ fOk (46 :: (D ++ Z)) = true := by
  have hg := fGo_app Z D 9 0 ha h9 hz
  have hm : mkOk 46 (46 :: (D ++ Z)) = true := by simp [mkOk]
  have hL : mkL 46 (46 :: (D ++ Z)) = D ++ Z := by simp [mkL]
  unfold fV fL fOk
  rw [hm, hL, hg]
  refine ⟨by simp, by simp, ?_⟩
  have : (9 - D.length == 9) = false := by rw [beq_eq_false_iff_ne]; omega
  simp [this]
theorem fr_point (Z : List UInt8) (hz : swdP Z = false) : fOk (46 :: Z) = false := by
  have hg := fGo_app Z [] 9 0 rfl (by simp) (Or.inl hz)
  have hm : mkOk 46 (46 :: Z) = true := by simp [mkOk]
  have hL : mkL 46 (46 :: Z) = Z := by simp [mkL]
  rw [List.nil_append] at hg
  unfold fOk
  rw [hm, hL, hg]; rfl
theorem fr_none (Z : List UInt8) (h : mkOk 46 Z = false) : fV Z = 0 ∧ fL Z = Z ∧ fOk Z = true := by
  unfold fV fL fOk; rw [h]; exact ⟨rfl, rfl, rfl⟩
theorem fr_read (n : Nat) (hn : n < 1000000000) (Z : List UInt8) (hz : swdP Z = false) (h46 : mkOk 46 Z = false) : fV (frc n ++ Z) = n ∧ fL (frc n ++ Z) = Z ∧ fOk (frc n ++ Z) = true := by
  unfold frc
  by_cases h0 : n = 0
  · rw [if_pos h0, List.nil_append, h0]; exact fr_none Z h46
  · rw [if_neg h0, List.cons_append]
    obtain ⟨a, b, c, d⟩ := frc_digits n h0 hn
    obtain ⟨e, f, g⟩ := fr_digits _ Z a b c (Or.inl hz)
    exact ⟨by rw [e, d], f, g⟩

/-! ### Zones -/
/-- What a clock that goes ahead shows behind the time. -/
def sgn' (z : Int) : List UInt8 := (if z < 0 then 45 else 43) :: hmt z.natAbs
theorem rz_sgn (z : Int) (h0 : -1439 ≤ z) (h1 : z ≤ 1439) : rzOk (sgn' z) = true ∧ rzV (sgn' z) = z := by
  have n1 := numI_dg 2 (z.natAbs / 60) (by omega) (by omega)
  have n2 := numI_dg 2 (z.natAbs % 60) (by omega) (by omega)
  obtain ⟨a1, a2, e1⟩ := dg2 (z.natAbs / 60)
  obtain ⟨b1, b2, e2⟩ := dg2 (z.natAbs % 60)
  have e : ∀ c : UInt8, c :: hmt z.natAbs = [c, a1, a2, 58, b1, b2] := by intro c; unfold hmt; rw [e1, e2]; rfl
  rw [e1] at n1; rw [e2] at n2
  unfold sgn'
  by_cases hz : z < 0
  · rw [if_pos hz, e]
    have g : zGood [45, a1, a2, 58, b1, b2] := ⟨rfl, Or.inr rfl, rfl, by show 0 ≤ numI [a1, a2]; omega, by show numI [a1, a2] ≤ 23; omega, by show 0 ≤ numI [b1, b2]; omega, by show numI [b1, b2] ≤ 59; omega⟩
    obtain ⟨r1, r2⟩ := rz_good _ g
    refine ⟨r1, r2.trans ?_⟩
    rw [if_pos (by rfl)]
    show -60 * numI [a1, a2] - numI [b1, b2] = z
    omega
  · rw [if_neg hz, e]
    have g : zGood [43, a1, a2, 58, b1, b2] := ⟨rfl, Or.inl rfl, rfl, by show 0 ≤ numI [a1, a2]; omega, by show numI [a1, a2] ≤ 23; omega, by show 0 ≤ numI [b1, b2]; omega, by show numI [b1, b2] ≤ 59; omega⟩
    obtain ⟨r1, r2⟩ := rz_good _ g
    refine ⟨r1, r2.trans ?_⟩
    rw [if_neg (by show ¬ (43 : Int) = 45; omega)]
    show 60 * numI [a1, a2] + numI [b1, b2] = z
    omega

/-! ### There and back -/
theorem txt_eq (y m d s n : Nat) (Z : List UInt8) : txt y m d s n ++ Z = dtx y m d ++ (84 :: (clk s ++ (frc n ++ Z))) := by simp [txt]
theorem back_print (t y m d : Nat) (ht : t ≤ 2305843009213693952) (hd : IsD (t / 86400000000000) y m d) :
    prsV (txt y m d (t / 1000000000) (t % 1000000000) ++ [90]) = t ∧ prsC (txt y m d (t / 1000000000) (t % 1000000000) ++ [90]) = 0 := by
  obtain ⟨a, b, c⟩ := fr_read (t % 1000000000) (by omega) [90] rfl rfl
  have hd2 : IsD (t / 1000000000 / 86400) y m d := by rwa [show t / 1000000000 / 86400 = t / 86400000000000 by omega]
  rw [txt_eq]
  have h := read_txt y m d (t / 1000000000) (frc (t % 1000000000) ++ [90]) (by omega) hd2 (by simp) c (by rw [b]; exact rz_z.1) (t / 1000000000) (by rw [b, rz_z.2]; simp) (by rw [a]; omega)
  rw [h.1, h.2, a]
  exact ⟨by omega, rfl⟩
theorem back_shift (t : Nat) (z : Int) (u y m d : Nat) (ht : t ≤ 2305843009213693952) (z0 : -1439 ≤ z) (z1 : z ≤ 1439) (hu : (t : Int) + z * 60000000000 = (u : Int)) (hd : IsD (u / 86400000000000) y m d) :
    prsV (txt y m d (u / 1000000000) (u % 1000000000) ++ sgn' z) = t ∧ prsC (txt y m d (u / 1000000000) (u % 1000000000) ++ sgn' z) = 0 := by
  have hs : swdP (sgn' z) = false ∧ mkOk 46 (sgn' z) = false ∧ 0 < (sgn' z).length := by
    unfold sgn'; by_cases h : z < 0
    · rw [if_pos h]; exact ⟨rfl, rfl, by simp⟩
    · rw [if_neg h]; exact ⟨rfl, rfl, by simp⟩
  obtain ⟨a, b, c⟩ := fr_read (u % 1000000000) (by omega) (sgn' z) hs.1 hs.2.1
  obtain ⟨r1, r2⟩ := rz_sgn z z0 z1
  have hd2 : IsD (u / 1000000000 / 86400) y m d := by rwa [show u / 1000000000 / 86400 = u / 86400000000000 by omega]
  rw [txt_eq]
  have h := read_txt y m d (u / 1000000000) (frc (u % 1000000000) ++ sgn' z) (by omega) hd2 (by rw [List.length_append]; omega) c (by rw [b]; exact r1) (t / 1000000000) (by rw [b, r2]; omega) (by rw [a]; omega)
  rw [h.1, h.2, a]
  exact ⟨by omega, rfl⟩

/-! ### Noughts behind a point -/
/-- The text ahead of Z, with a point in any case. -/
def pnt (n : Nat) : List UInt8 := if n = 0 then [46] else frc n
theorem pnt_cons (n : Nat) : ∃ T, pnt n = 46 :: T ∧ T.all isD = true ∧ T.length ≤ 9 ∧ (n < 1000000000 → vl T * 10 ^ (9 - T.length) = n) ∧ (n ≠ 0 → n < 1000000000 → 1 ≤ T.length) ∧ (n = 0 → T = []) := by
  unfold pnt
  by_cases h0 : n = 0
  · rw [if_pos h0]; exact ⟨[], rfl, rfl, by simp, fun _ => by rw [h0]; rfl, fun h => absurd h0 h, fun _ => rfl⟩
  · rw [if_neg h0]; unfold frc; rw [if_neg h0]
    have hl : (Lib.trimRightB (dg 9 n) 48).length ≤ 9 := by have := trim_len (dg 9 n) 48; rwa [dg_len] at this
    have ha : (Lib.trimRightB (dg 9 n) 48).all isD = true := by
      obtain ⟨j, hj⟩ := trim_pad (dg 9 n) 48
      have ha := congrArg (fun x : List UInt8 => x.all isD) hj
      simp only [dg_all, List.all_append] at ha
      cases hk : (Lib.trimRightB (dg 9 n) 48).all isD
      · rw [hk] at ha; simp at ha
      · rfl
    exact ⟨_, rfl, ha, hl, fun hn => (frc_digits n h0 hn).2.2.2, fun _ hn => (frc_digits n h0 hn).2.1, fun h => absurd h h0⟩
theorem zeros_all (j : Nat) : (List.replicate j (48 : UInt8)).all isD = true := by
  induction j with
  | zero => rfl
  | succ j ih => rw [List.replicate_succ, List.all_cons, ih]; rfl
theorem point_yes (t y m d i : Nat) (ht : t ≤ 2305843009213693952) (hd : IsD (t / 86400000000000) y m d) (h1 : 2 ≤ (pnt (t % 1000000000) ++ List.replicate i 48).length) (h9 : (pnt (t % 1000000000) ++ List.replicate i 48).length ≤ 10) :
    prsV (dtx y m d ++ (84 :: (clk (t / 1000000000) ++ ((pnt (t % 1000000000) ++ List.replicate i 48) ++ [90])))) = t ∧ prsC (dtx y m d ++ (84 :: (clk (t / 1000000000) ++ ((pnt (t % 1000000000) ++ List.replicate i 48) ++ [90])))) = 0 := by
  obtain ⟨T, e, ha, hl, hv, _, _⟩ := pnt_cons (t % 1000000000)
  rw [e, List.cons_append, List.length_cons] at h1 h9
  have hD : (T ++ List.replicate i 48).all isD = true := by rw [List.all_append, ha, zeros_all]; rfl
  obtain ⟨a, b, c⟩ := fr_digits (T ++ List.replicate i 48) [90] hD (by omega) (by omega) (Or.inl rfl)
  have hd2 : IsD (t / 1000000000 / 86400) y m d := by rwa [show t / 1000000000 / 86400 = t / 86400000000000 by omega]
  have hval : vl (T ++ List.replicate i 48) * 10 ^ (9 - (T ++ List.replicate i 48).length) = t % 1000000000 := by
    rw [vl_zeros, List.length_append, List.length_replicate, Nat.mul_assoc, ← Nat.pow_add]
    rw [List.length_append, List.length_replicate] at h9
    rw [show i + (9 - (T.length + i)) = 9 - T.length by omega]
    exact hv (by omega)
  rw [e, List.cons_append, List.cons_append]
  rw [hval] at a
  have h := read_txt y m d (t / 1000000000) (46 :: ((T ++ List.replicate i 48) ++ [90])) (by omega) hd2 (by simp) c (by rw [b]; exact rz_z.1) (t / 1000000000) (by rw [b, rz_z.2]; simp) (by rw [a]; omega)
  rw [h.1, h.2, a]
  exact ⟨by omega, rfl⟩
theorem point_no (t y m d i : Nat) (ht : t ≤ 2305843009213693952) (hd : IsD (t / 86400000000000) y m d) (h : (pnt (t % 1000000000) ++ List.replicate i 48).length = 1 ∨ 10 < (pnt (t % 1000000000) ++ List.replicate i 48).length) :
    prsV (dtx y m d ++ (84 :: (clk (t / 1000000000) ++ ((pnt (t % 1000000000) ++ List.replicate i 48) ++ [90])))) = 0 ∧ prsC (dtx y m d ++ (84 :: (clk (t / 1000000000) ++ ((pnt (t % 1000000000) ++ List.replicate i 48) ++ [90])))) = 30 := by
  obtain ⟨T, e, ha, hl, hv, _, _⟩ := pnt_cons (t % 1000000000)
  have hy := hd.y1 (by omega)
  have hd1 := hd.d1
  have hm2 := hd.m2
  rw [e, List.cons_append, List.length_cons] at h
  have hD : (T ++ List.replicate i 48).all isD = true := by rw [List.all_append, ha, zeros_all]; rfl
  rw [e, List.cons_append, List.cons_append]
  generalize T ++ List.replicate i 48 = D at *
  refine unread_txt y m d (t / 1000000000) (46 :: (D ++ [90])) (by omega) (by omega) (by omega) (by simp) ?_
  rcases h with h | h
  · left
    have : D = [] := List.eq_nil_of_length_eq_zero (by omega)
    subst this
    exact fr_point [90] rfl
  · right
    have hs : D ++ [90] = D.take 9 ++ (D.drop 9 ++ [90]) := by rw [← List.append_assoc, List.take_append_drop]
    have ht9 : (D.take 9).length = 9 := by rw [List.length_take]; omega
    have hta : (D.take 9).all isD = true := by
      refine List.all_eq_true.2 fun x hx => List.all_eq_true.1 hD x (List.mem_of_mem_take hx)
    obtain ⟨_, b, _⟩ := fr_digits (D.take 9) (D.drop 9 ++ [90]) hta (by omega) (by omega) (Or.inr ht9)
    rw [hs, b]
    have hdl : 0 < (D.drop 9).length := by rw [List.length_drop]; omega
    cases hx : D.drop 9 with
    | nil => rw [hx] at hdl; simp at hdl
    | cons x r =>
      have hxd : isD x = true := by
        have : x ∈ D.drop 9 := by rw [hx]; simp
        exact List.all_eq_true.1 hD x (List.mem_of_mem_drop this)
      have h2 := isD_le hxd
      refine rz_bad _ (by intro h3; rw [List.cons_append] at h3; cases r <;> simp at h3) ?_
      rintro ⟨_, hsg, _⟩
      have : byt (x :: r ++ [90]) 0 = x.toNat := rfl
      rw [this] at hsg
      omega
end S3
end Go.Proofs.YtaijekagcmkgjaaDoor
