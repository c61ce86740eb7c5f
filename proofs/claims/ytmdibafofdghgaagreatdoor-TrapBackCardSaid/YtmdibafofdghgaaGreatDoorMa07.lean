/- Texts on the program and on the document, joined: BerF, OidP. -/
import Derived.Test.YtmdibafofdghgaaGreatDoorMa06
import Derived.Test.YtmdibafofdghgaaGreatDoorMa01
/- ber.Number, ber.Unsigned, walked. -/
namespace Go.Proofs.YtmdibafofdghgaaGreatDoor
open Go.ChangeShapes Go.WideShapes Go.ChangeAt Go.RowKit K P1 B5
set_option linter.unusedVariables false

theorem bits_shl_orI (y : Int) (b : Nat) (hb : b < 256) : bits .or .i64 (wrap64 (wrap64 y * 256)) b = wrap64 (y * 256 + b) := by
  have h1 : (BitVec.ofInt 64 (wrap64 (wrap64 y * 256))).toNat = 2 ^ 8 * (y % 72057594037927936).toNat := by
    rw [BitVec.toNat_ofInt, wrap64_eq, wrap64_eq]
    omega
  have h2 : (BitVec.ofInt 64 ((b : Nat) : Int)).toNat = b := by
    rw [BitVec.toNat_ofInt]; omega
  have h4 : bits .or .i64 (wrap64 (wrap64 y * 256)) b = IntKind.i64.wrap (((BitVec.ofInt 64 (wrap64 (wrap64 y * 256))).toNat ||| (BitVec.ofInt 64 ((b : Nat) : Int)).toNat : Nat) : Int) := by
    show IntKind.i64.wrap (((BitVec.ofInt 64 (wrap64 (wrap64 y * 256)) ||| BitVec.ofInt 64 ((b : Nat) : Int)).toNat : Nat) : Int) = _
    rw [BitVec.toNat_or]
  rw [h4, h1, h2, ← Nat.two_pow_add_eq_or_of_lt (by omega), IntKind.wrap_i64, wrap64_eq]
  omega
/-- The number behind i bytes. -/
def nvi (l : List UInt8) (i : Nat) : Int := if byt l 0 < 128 then (num (l.take i) : Int) else (num (l.take i) : Int) - ((256 ^ i : Nat) : Int)
theorem nvi_all (l : List UInt8) : nvi l l.length = nv l := by unfold nvi nv; rw [List.take_length]
theorem nvi_step (l : List UInt8) (i : Nat) (h : i < l.length) : nvi l (i + 1) = nvi l i * 256 + (byt l i : Nat) := by
  unfold nvi
  rw [num_take l i h, Nat.pow_succ]
  by_cases hb : byt l 0 < 128
  · rw [if_pos hb, if_pos hb]; omega
  · rw [if_neg hb, if_neg hb]; omega
theorem nv_range (l : List UInt8) (h1 : 1 ≤ l.length) (h8 : l.length ≤ 8) : -9223372036854775808 ≤ nv l ∧ nv l ≤ 9223372036854775807 ∧ (0 ≤ nv l ↔ byt l 0 < 128) := by
  match l, h1 with
  | a :: r, _ =>
    have hb : byt (a :: r) 0 = a.toNat := by simp [byt]
    have hr : r.length ≤ 7 := by simpa using h8
    have ha := a.toNat_lt
    have hn := num_lt r
    have hm : (256 : Nat) ^ r.length ≤ 256 ^ 7 := Nat.pow_le_pow_right (by omega) hr
    have hpos : 0 < (256 : Nat) ^ r.length := Nat.pow_pos (by omega)
    unfold nv
    rw [hb, num_cons, List.length_cons, Nat.pow_succ]
    generalize 256 ^ r.length = M at *
    generalize num r = N at *
    by_cases h : a.toNat < 128
    · rw [if_pos h]
      have : a.toNat * M ≤ 127 * M := Nat.mul_le_mul_right _ (by omega)
      generalize a.toNat * M = X at *
      omega
    · rw [if_neg h]
      have h1 : 128 * M ≤ a.toNat * M := Nat.mul_le_mul_right _ (by omega)
      have h2 : a.toNat * M ≤ 255 * M := Nat.mul_le_mul_right _ (by omega)
      generalize a.toNat * M = X at *
      omega
theorem nOk_no {l : List UInt8} (h : isSh l = false) : nOk l = false := by
  unfold isSh at h; unfold nOk
  rw [Bool.or_eq_false_iff] at h
  by_cases h1 : 1 ≤ l.length
  · have h2 : 1 < l.length := by have := beq_eq_false_iff_ne.1 h.1; omega
    have := h.2
    rw [decide_eq_true h2, Bool.true_and] at this
    rw [decide_eq_true h2, Bool.true_and, this]; simp
  · rw [decide_eq_false h1]; rfl
theorem nOk_yes {l : List UInt8} (h : isSh l = true) : nOk l = decide (l.length ≤ 8) ∧ 1 ≤ l.length := by
  unfold isSh at h; unfold nOk
  rw [Bool.or_eq_true, Bool.and_eq_true, beq_iff_eq, decide_eq_true_eq] at h
  have h1 : 1 ≤ l.length := by rcases h with h | ⟨h, _⟩ <;> omega
  refine ⟨?_, h1⟩
  rw [decide_eq_true h1, Bool.true_and]
  rcases h with h | ⟨h2, h3⟩
  · rw [h]; rfl
  · rw [decide_eq_true h2, Bool.true_and, h3, Bool.and_true]
def NbRel (l : List UInt8) (vn vi : Value) : Prop := ∃ i : Nat, ∃ x : Int, i ≤ l.length ∧ vn = .int .i64 x ∧ x = wrap64 (nvi l i) ∧ vi = .int .i64 i
def nuV (l : List UInt8) : Int := if nOk l then nv l else 0
def nuE (l : List UInt8) : Nat := if nOk l then 0 else 50
set_option maxRecDepth 100000 in
theorem number_walk (l : List UInt8) (hl : l.length ≤ 140737488351232) (w : World) :
    Calls Tryz.prog 91 #[.string (bs l)] w fun e w' => e = .returned (.tuple #[.int .i64 (nuV l), .int .i64 (nuE l : Nat)]) ∧ Below w.heap.size w w' := by
  have hS := isShort_walk l hl w
  cases hs : isSh l
  · have e1 : nuV l = 0 ∧ nuE l = 50 := by unfold nuV nuE; rw [nOk_no hs]; exact ⟨rfl, rfl⟩
    rw [e1.1, e1.2]
    rw [hs] at hS
    have HS := Lib.hid hS
    clear hS hs e1
    go_enter Tryz.func91, Tryz.ntmps91
    go_wp2_with fail
    refine HS.out.mono ?_
    rintro e x1 ⟨rfl, k, rfl⟩
    go_wp2
    go_ret2
    exact ⟨rfl, Below_drewNa (Below.refl _ _) k⟩
  · rw [hs] at hS
    obtain ⟨hok, h1⟩ := nOk_yes hs
    by_cases h8 : l.length ≤ 8
    · rw [decide_eq_true h8] at hok
      have e1 : nuV l = nv l ∧ nuE l = 0 := by unfold nuV nuE; rw [hok]; exact ⟨rfl, rfl⟩
      rw [e1.1, e1.2]
      have h8' : ((l.length : Nat) : Int) ≤ 8 := by omega
      have h1' : (1 : Int) ≤ ((l.length : Nat) : Int) := by omega
      have hb := and128 (byt l 0) (byt_lt l 0)
      have hn0 : nvi l 0 = if byt l 0 < 128 then 0 else -1 := by unfold nvi; simp [num]
      have HS := Lib.hid hS
      have HN := Lib.hid (nvi_all l)
      have HR := Lib.hid (nv_range l h1 h8)
      have HT := Lib.hid (fun i h => nvi_step l i h)
      have hcs : ((bits .and .u8 ((byt l 0 : Nat) : Int) 128 != 0) = false ∧ wrap64 (nvi l 0) = 0) ∨ ((bits .and .u8 ((byt l 0 : Nat) : Int) 128 != 0) = true ∧ wrap64 (nvi l 0) = -1) := by
        by_cases hneg : byt l 0 < 128
        · left; rw [if_pos hneg] at hn0; exact ⟨by rw [hb]; simp; omega, by rw [hn0, wrap64_eq]; omega⟩
        · right; rw [if_neg hneg] at hn0; exact ⟨by rw [hb]; simp; omega, by rw [hn0, wrap64_eq]; omega⟩
      clear hS hs hok e1 h1 hb hn0
      rcases hcs with ⟨hb, hn0⟩ | ⟨hb, hn0⟩
      all_goals
        have HN0 := Lib.hid hn0
        clear hn0
        go_enter Tryz.func91, Tryz.ntmps91
        go_wp2_with fail
        refine HS.out.mono ?_
        rintro e x1 ⟨rfl, k, rfl⟩
        have hb0 : Below w.heap.size w (w.drewN k) := Below_drewNa (Below.refl _ _) k
        generalize w.drewN k = w1 at *
        have hcv := Lib.run_convert_string_bytes (P := Tryz.prog) w1 9 124 5 (bs l) Tryz.underlying9 Tryz.underlying124 Tryz.underlying5
        go_wp2
        have kpb : Below w.heap.size w (Lib.bytesWorld w1 5 (bs l)) := ((Kp.ofBelow hb0 []).bytes 5 (bs l)).below (Nat.le_refl _) (by simp)
        have hcb := bytes_cell w1 5 l
        generalize Lib.bytesWorld w1 5 (bs l) = wb at *
        have HC := Lib.hid hcb
        clear hcb hcv hb
        go_loop [4, 22] (fun vn vi => NbRel l vn vi) (fun vn vi => l.length - (intOf vi).toNat)
        case atStart => exact ⟨0, _, Nat.zero_le _, rfl, HN0.out.symm, rfl⟩
        case round =>
          obtain ⟨i, x, hi, rfl, hx, rfl⟩ := hrel
          by_cases hlt : i < l.length
          · have hcell := HC.out i hlt
            have hnt := HT.out i hlt
            have hbb := byt_lt l i
            have hbo := bits_shl_orI (nvi l i) (byt l i) hbb
            rw [← hx, ← hnt] at hbo
            clear hx hnt
            have HB := Lib.hid hbo
            clear hbo
            go_wp2
            go_round
            case measure => simp [intOf]; omega
            case rel => exact ⟨i + 1, _, by omega, rfl, HB.out, by simp⟩
          · obtain rfl : i = l.length := by omega
            have hxx : x = nv l := by
              rw [hx, HN.out, wrap64_eq]
              have := HR.out
              omega
            have HX := Lib.hid hxx
            clear hx hlt hi hxx
            go_wp2
            go_ret2
            rw [HX.out]
            exact ⟨rfl, kpb⟩
    · rw [decide_eq_false h8] at hok
      have e1 : nuV l = 0 ∧ nuE l = 50 := by unfold nuV nuE; rw [hok]; exact ⟨rfl, rfl⟩
      rw [e1.1, e1.2]
      have HS := Lib.hid hS
      have h8' : (8 : Int) < ((l.length : Nat) : Int) := by omega
      clear hS hs e1 hok h1 h8
      go_enter Tryz.func91, Tryz.ntmps91
      go_wp2_with fail
      refine HS.out.mono ?_
      rintro e x1 ⟨rfl, k, rfl⟩
      go_wp2
      go_ret2
      exact ⟨rfl, Below_drewNa (Below.refl _ _) k⟩
/-- The unsigned number behind i bytes. -/
def uvi (l : List UInt8) (i : Nat) : Nat := num (l.take i) % 18446744073709551616
theorem uvi_step (l : List UInt8) (i : Nat) (h : i < l.length) : uvi l (i + 1) = (uvi l i * 256 + byt l i) % 18446744073709551616 := by
  unfold uvi; rw [num_take l i h]; omega
theorem bits_shl_orU (x b : Nat) (hb : b < 256) : bits .or .u64 (((x : Int) * 256) % 18446744073709551616) b = (((x * 256 + b) % 18446744073709551616 : Nat) : Int) := by
  have h1 : (((x : Int) * 256) % 18446744073709551616) = ((2 ^ 8 * (x % 72057594037927936) : Nat) : Int) := by omega
  have h := u64_or_nat (2 ^ 8 * (x % 72057594037927936)) b (by omega) (by omega)
  rw [h1, h, ← Nat.two_pow_add_eq_or_of_lt (by omega)]
  omega
def uuE (l : List UInt8) : Nat := if uOk l then 0 else 50
def uuV (l : List UInt8) : Int := if uOk l then uv l else 0
theorem uOk_no {l : List UInt8} (h : isSh l = false) : uOk l = false := by
  have h1 := nOk_no h
  unfold uOk
  rw [h1, Bool.false_and, Bool.or_false]
  by_cases h9 : l.length = 9
  · rw [isSh_step (by omega)] at h
    have : same9 l = true := by simpa using h
    unfold same9 at this
    by_cases hb : byt l 0 = 0
    · rw [hb] at this ⊢
      have : byt l 1 < 128 := by simpa using this
      rw [decide_eq_false (by omega)]; simp
    · have : (byt l 0 == 0) = false := by rw [beq_eq_false_iff_ne]; exact hb
      rw [this]; simp
  · have : (l.length == 9) = false := by rw [beq_eq_false_iff_ne]; exact h9
    rw [this]; rfl
/-- What is looked at, one after the other. -/
theorem uOk_ways {l : List UInt8} (h : isSh l = true) :
    (uOk l = false ∧ 9 < l.length) ∨ (uOk l = false ∧ l.length ≤ 9 ∧ 128 ≤ byt l 0) ∨ (uOk l = false ∧ l.length = 9 ∧ byt l 0 < 128 ∧ byt l 0 ≠ 0) ∨
    (uOk l = true ∧ l.length ≤ 9 ∧ byt l 0 < 128 ∧ (l.length ≠ 9 ∨ byt l 0 = 0) ∧ uv l = (uvi l l.length : Nat)) := by
  obtain ⟨hok, h1⟩ := nOk_yes h
  by_cases hl : 9 < l.length
  · left
    refine ⟨?_, hl⟩
    unfold uOk
    rw [hok, decide_eq_false (by omega : ¬ l.length ≤ 8), show (l.length == 9) = false by rw [beq_eq_false_iff_ne]; omega]; rfl
  · right
    by_cases h9 : l.length = 9
    · have hn : nOk l = false := by rw [hok]; simp; omega
      by_cases hb : byt l 0 = 0
      · right; right
        rw [isSh_step (by omega)] at h
        have hs : same9 l = false := by simpa using h
        have hb1 : 128 ≤ byt l 1 := by
          unfold same9 at hs
          rw [hb] at hs
          have : ¬ byt l 1 < 128 := by simpa using hs
          omega
        refine ⟨by unfold uOk; rw [h9, hb, decide_eq_true hb1]; rfl, by omega, by omega, .inr hb, ?_⟩
        unfold uv uvi
        rw [if_pos h9, List.take_length]
        match l, h9, hb with
        | a :: r, h9, hb =>
          have hr : r.length = 8 := by simpa using h9
          have ha : a.toNat = 0 := by simpa [byt] using hb
          have hn := num_lt r
          rw [hr] at hn
          rw [num_cons, ha]
          show ((num r : Nat) : Int) = _
          omega
      · have hu : uOk l = false := by
          unfold uOk
          rw [hn, h9, show (byt l 0 == 0) = false by rw [beq_eq_false_iff_ne]; exact hb]; rfl
        by_cases h128 : 128 ≤ byt l 0
        · left; exact ⟨hu, by omega, h128⟩
        · right; left; exact ⟨hu, h9, by omega, hb⟩
    · have h8 : l.length ≤ 8 := by omega
      rw [decide_eq_true h8] at hok
      obtain ⟨r1, r2, r3⟩ := nv_range l h1 h8
      by_cases h128 : 128 ≤ byt l 0
      · left
        refine ⟨?_, by omega, h128⟩
        unfold uOk
        rw [hok, decide_eq_false (by omega : ¬ 0 ≤ nv l), show (l.length == 9) = false by rw [beq_eq_false_iff_ne]; omega]; rfl
      · right; right
        refine ⟨?_, by omega, by omega, .inl h9, ?_⟩
        · unfold uOk
          rw [hok, decide_eq_true (r3.2 (by omega))]; simp
        · have hn := num_lt l
          have hm : (256 : Nat) ^ l.length ≤ 256 ^ 8 := Nat.pow_le_pow_right (by omega) h8
          unfold uv uvi nv
          rw [if_neg h9, List.take_length, if_pos (by omega)]
          omega
def UuRel (l : List UInt8) (vn vi : Value) : Prop := ∃ i : Nat, i ≤ l.length ∧ vn = .int .u64 (uvi l i : Nat) ∧ vi = .int .i64 i
set_option maxRecDepth 100000 in
theorem unsigned_walk (l : List UInt8) (hl : l.length ≤ 140737488351232) (w : World) :
    Calls Tryz.prog 142 #[.string (bs l)] w fun e w' => e = .returned (.tuple #[.int .u64 (uuV l), .int .i64 (uuE l : Nat)]) ∧ Below w.heap.size w w' := by
  have hS := isShort_walk l hl w
  cases hs : isSh l
  · have e1 : uuV l = 0 ∧ uuE l = 50 := by unfold uuV uuE; rw [uOk_no hs]; exact ⟨rfl, rfl⟩
    rw [e1.1, e1.2]
    rw [hs] at hS
    have HS := Lib.hid hS
    clear hS hs e1
    go_enter Tryz.func142, Tryz.ntmps142
    go_wp2_with fail
    refine HS.out.mono ?_
    rintro e x1 ⟨rfl, k, rfl⟩
    go_wp2
    go_ret2
    exact ⟨rfl, Below_drewNa (Below.refl _ _) k⟩
  · rw [hs] at hS
    have HS := Lib.hid hS
    have h1 := (nOk_yes hs).2
    have h1' : (1 : Int) ≤ ((l.length : Nat) : Int) := by omega
    have hb := and128 (byt l 0) (byt_lt l 0)
    rcases uOk_ways hs with ⟨hu, hc⟩ | ⟨hu, hc, hc2⟩ | ⟨hu, hc, hc2, hc3⟩ | ⟨hu, hc, hc2, hc3, hv⟩
    · have e1 : uuV l = 0 ∧ uuE l = 50 := by unfold uuV uuE; rw [hu]; exact ⟨rfl, rfl⟩
      rw [e1.1, e1.2]
      have hc' : (9 : Int) < ((l.length : Nat) : Int) := by omega
      clear hS hs e1 hu hc hb h1
      go_enter Tryz.func142, Tryz.ntmps142
      go_wp2_with fail
      refine HS.out.mono ?_
      rintro e x1 ⟨rfl, k, rfl⟩
      go_wp2
      go_ret2
      exact ⟨rfl, Below_drewNa (Below.refl _ _) k⟩
    · have e1 : uuV l = 0 ∧ uuE l = 50 := by unfold uuV uuE; rw [hu]; exact ⟨rfl, rfl⟩
      rw [e1.1, e1.2]
      have hc' : ((l.length : Nat) : Int) ≤ 9 := by omega
      rw [decide_eq_true hc2] at hb
      clear hS hs e1 hu hc hc2 h1
      go_enter Tryz.func142, Tryz.ntmps142
      go_wp2_with fail
      refine HS.out.mono ?_
      rintro e x1 ⟨rfl, k, rfl⟩
      go_wp2
      go_ret2
      exact ⟨rfl, Below_drewNa (Below.refl _ _) k⟩
    · have e1 : uuV l = 0 ∧ uuE l = 50 := by unfold uuV uuE; rw [hu]; exact ⟨rfl, rfl⟩
      rw [e1.1, e1.2]
      have hc' : ((l.length : Nat) : Int) = 9 := by omega
      rw [decide_eq_false (by omega)] at hb
      have hn0 : (((byt l 0 : Nat) : Int) != 0) = true := by rw [bne_iff_ne]; omega
      clear hS hs e1 hu hc hc2 hc3 h1 h1' hl
      go_enter Tryz.func142, Tryz.ntmps142
      go_wp2_with fail
      refine HS.out.mono ?_
      rintro e x1 ⟨rfl, k, rfl⟩
      go_wp2
      go_ret2
      exact ⟨rfl, Below_drewNa (Below.refl _ _) k⟩
    · have e1 : uuV l = uv l ∧ uuE l = 0 := by unfold uuV uuE; rw [hu]; exact ⟨rfl, rfl⟩
      rw [e1.1, e1.2, hv]
      have hc' : ((l.length : Nat) : Int) ≤ 9 := by omega
      rw [decide_eq_false (by omega)] at hb
      have HT := Lib.hid (fun i h => uvi_step l i h)
      have hcs : (((((l.length : Nat) : Int) == 9) = false) ∨ (((((l.length : Nat) : Int) == 9) = true) ∧ (((byt l 0 : Nat) : Int) != 0) = false)) := by
        by_cases h9 : l.length = 9
        · right; exact ⟨by rw [beq_iff_eq]; omega, by rw [bne_eq_false_iff_eq]; omega⟩
        · left; rw [beq_eq_false_iff_ne]; omega
      clear hS hs e1 hu hc hc2 hc3 h1 hv
      rcases hcs with hq | ⟨hq, hq2⟩
      all_goals
        go_enter Tryz.func142, Tryz.ntmps142
        go_wp2_with fail
        refine HS.out.mono ?_
        rintro e x1 ⟨rfl, k, rfl⟩
        have hb0 : Below w.heap.size w (w.drewN k) := Below_drewNa (Below.refl _ _) k
        generalize w.drewN k = w1 at *
        have hcv := Lib.run_convert_string_bytes (P := Tryz.prog) w1 9 124 5 (bs l) Tryz.underlying9 Tryz.underlying124 Tryz.underlying5
        go_wp2
        have kpb : Below w.heap.size w (Lib.bytesWorld w1 5 (bs l)) := ((Kp.ofBelow hb0 []).bytes 5 (bs l)).below (Nat.le_refl _) (by simp)
        have hcb := bytes_cell w1 5 l
        generalize Lib.bytesWorld w1 5 (bs l) = wb at *
        have HC := Lib.hid hcb
        clear hcb hcv hb
        go_loop [4, 32] (fun vn vi => UuRel l vn vi) (fun vn vi => l.length - (intOf vi).toNat)
        case atStart => exact ⟨0, Nat.zero_le _, by simp [uvi, num], rfl⟩
        case round =>
          obtain ⟨i, hi, rfl, rfl⟩ := hrel
          by_cases hlt : i < l.length
          · have hcell := HC.out i hlt
            have hnt := HT.out i hlt
            have hbb := byt_lt l i
            have hbo := bits_shl_orU (uvi l i) (byt l i) hbb
            rw [← hnt] at hbo
            generalize uvi l i = x at *
            clear hnt
            have HB := Lib.hid hbo
            clear hbo
            go_wp2
            go_round
            case measure => simp [intOf]; omega
            case rel => exact ⟨i + 1, by omega, by rw [← HB.out]; simp [IntKind.wrap, IntKind.signed, IntKind.bits], by simp⟩
          · obtain rfl : i = l.length := by omega
            clear hlt hi
            go_wp2
            go_ret2
            exact ⟨rfl, kpb⟩
end Go.Proofs.YtmdibafofdghgaaGreatDoor
/- Object identifiers as texts, and their order: plain mathematics, of no program. -/
namespace Go.Proofs.YtmdibafofdghgaaGreatDoor
open K
namespace O6

/-! ### Numbers as texts -/
def dg : Nat → Nat → List UInt8
  | 0, _ => []
  | f + 1, n => if n < 10 then [b8 (48 + n)] else dg f (n / 10) ++ [b8 (48 + n % 10)]
theorem dg_small (f n : Nat) (h : n < 10) : dg (f + 1) n = [b8 (48 + n)] := by unfold dg; rw [if_pos h]
theorem dg_big (f n : Nat) (h : 10 ≤ n) : dg (f + 1) n = dg f (n / 10) ++ [b8 (48 + n % 10)] := by
  show (if n < 10 then _ else _) = _
  rw [if_neg (by omega)]
theorem dg_more : ∀ (f n : Nat), 1 ≤ f → n < 10 ^ f → dg (f + 1) n = dg f n
  | 0, _, h, _ => by omega
  | 1, n, _, h => by
    rw [dg_small 1 n (by omega), dg_small 0 n (by omega)]
  | f + 2, n, _, h => by
    by_cases hn : n < 10
    · rw [dg_small _ n hn, dg_small _ n hn]
    · rw [dg_big _ n (by omega), dg_big _ n (by omega), dg_more (f + 1) (n / 10) (by omega) (by rw [Nat.pow_succ] at h; omega)]
/-- A number from 0 on, as text (of at most twenty digits). -/
def nm (n : Nat) : List UInt8 := dg 20 n
def isDg (c : UInt8) : Bool := decide (48 ≤ c.toNat) && decide (c.toNat ≤ 57)
theorem dg_digits : ∀ (f n : Nat), (dg f n).all isDg = true
  | 0, _ => rfl
  | f + 1, n => by
    by_cases hn : n < 10
    · rw [dg_small _ n hn]; simp [isDg, b8_toNat (48 + n) (by omega)]; omega
    · rw [dg_big _ n (by omega), List.all_append, dg_digits f (n / 10)]
      simp [isDg, b8_toNat (48 + n % 10) (by omega)]; omega
theorem dg_len : ∀ (f n : Nat), (dg f n).length ≤ f
  | 0, _ => Nat.le_refl 0
  | f + 1, n => by
    by_cases hn : n < 10
    · rw [dg_small _ n hn]; simp
    · rw [dg_big _ n (by omega), List.length_append]; have := dg_len f (n / 10); simp; omega
theorem dg_len_lt : ∀ (f n : Nat), n < 10 ^ f → 1 ≤ f → ∀ g, 1 ≤ g → (dg g n).length ≤ f
  | 0, _, _, h, _, _ => by omega
  | f + 1, n, h, _, 0, hg => by omega
  | f + 1, n, h, _, g + 1, _ => by
    by_cases hn : n < 10
    · rw [dg_small _ n hn]; simp
    · rw [dg_big _ n (by omega), List.length_append]
      have hf : 1 ≤ f := by
        rcases Nat.eq_zero_or_pos f with h0 | h0
        · subst h0; omega
        · exact h0
      rcases Nat.eq_zero_or_pos g with h0 | h0
      · subst h0; simp [dg]
      · have := dg_len_lt f (n / 10) (by rw [Nat.pow_succ] at h; omega) hf g h0
        simp; omega
theorem nm_len (n : Nat) (h : n < 4294967296) : (nm n).length ≤ 10 := dg_len_lt 10 n (by omega) (by omega) 20 (by omega)
theorem nm_ne (n : Nat) : nm n ≠ [] := by
  unfold nm
  by_cases hn : n < 10
  · rw [dg_small _ n hn]; simp
  · rw [dg_big _ n (by omega)]; simp
/-- What digits come to, behind a number. -/
def vd (n : Nat) (l : List UInt8) : Nat := l.foldl (fun a c => a * 10 + (c.toNat - 48)) n
theorem vd_app (n : Nat) (a b : List UInt8) : vd n (a ++ b) = vd (vd n a) b := by unfold vd; rw [List.foldl_append]
theorem vd_one (n : Nat) (c : UInt8) : vd n [c] = n * 10 + (c.toNat - 48) := rfl
theorem vd_dg : ∀ (f n : Nat), n < 10 ^ f → 1 ≤ f → vd 0 (dg f n) = n
  | 0, _, _, h => by omega
  | f + 1, n, h, _ => by
    by_cases hn : n < 10
    · rw [dg_small _ n hn, vd_one, b8_toNat _ (by omega)]; omega
    · have hf : 1 ≤ f := by
        rcases Nat.eq_zero_or_pos f with h0 | h0
        · subst h0; omega
        · exact h0
      rw [dg_big _ n (by omega), vd_app, vd_dg f (n / 10) (by rw [Nat.pow_succ] at h; omega) hf, vd_one, b8_toNat _ (by omega)]; omega
theorem vd_nm (n : Nat) (h : n < 100000000000000000000) : vd 0 (nm n) = n := vd_dg 20 n (by omega) (by omega)

/-! ### Arcs as a text -/
def put : List Nat → List UInt8
  | [] => []
  | [a] => nm a
  | a :: b :: r => nm a ++ (46 :: put (b :: r))
theorem put_cons (a b : Nat) (r : List Nat) : put (a :: b :: r) = nm a ++ (46 :: put (b :: r)) := rfl
/-- The numbers between points; n is what stands already. -/
def sp : List UInt8 → Nat → List Nat
  | [], n => [n]
  | c :: r, n => if c = 46 then n :: sp r 0 else sp r (n * 10 + (c.toNat - 48))
theorem sp_nil (n : Nat) : sp [] n = [n] := rfl
theorem sp_dot (r : List UInt8) (n : Nat) : sp (46 :: r) n = n :: sp r 0 := by
  show (if (46 : UInt8) = 46 then _ else _) = _; rw [if_pos rfl]
theorem sp_digit (c : UInt8) (r : List UInt8) (n : Nat) (h : isDg c = true) : sp (c :: r) n = sp r (n * 10 + (c.toNat - 48)) := by
  show (if c = 46 then _ else _) = _
  rw [if_neg]
  intro e; subst e; revert h; decide
theorem sp_digits : ∀ (d r : List UInt8) (n : Nat), d.all isDg = true → sp (d ++ r) n = sp r (vd n d)
  | [], r, n, _ => rfl
  | c :: d, r, n, h => by
    rw [List.all_cons, Bool.and_eq_true] at h
    rw [List.cons_append, sp_digit c _ n h.1, sp_digits d r _ h.2]; rfl
theorem sp_put : ∀ (l : List Nat), l ≠ [] → (∀ a ∈ l, a < 100000000000000000000) → sp (put l) 0 = l
  | [], h, _ => absurd rfl h
  | [a], _, h => by
    show sp (nm a) 0 = [a]
    have := sp_digits (nm a) [] 0 (dg_digits 20 a)
    rw [List.append_nil] at this
    rw [this, vd_nm a (h a (by simp)), sp_nil]
  | a :: b :: r, _, h => by
    rw [put_cons, sp_digits (nm a) _ 0 (dg_digits 20 a), vd_nm a (h a (by simp)), sp_dot, sp_put (b :: r) (by simp) (fun x hx => h x (by simp [List.mem_cons] at hx ⊢; right; exact hx))]
def isArcs (l : List Nat) : Bool :=
  decide (2 ≤ l.length) && (decide (l.length ≤ 128) && (l.all (fun a => decide (a ≤ 4294967295)) && ((decide (l.getD 0 0 < 2) && decide (l.getD 1 0 ≤ 39)) || (l.getD 0 0 == 2 && decide (l.getD 1 0 ≤ 4294967215)))))
theorem isArcs_len {l : List Nat} (h : isArcs l = true) : 2 ≤ l.length ∧ l.length ≤ 128 := by
  unfold isArcs at h
  simp only [Bool.and_eq_true, decide_eq_true_eq] at h
  exact ⟨h.1, h.2.1⟩
theorem isArcs_le {l : List Nat} (h : isArcs l = true) : ∀ a ∈ l, a ≤ 4294967295 := by
  unfold isArcs at h
  simp only [Bool.and_eq_true] at h
  intro a ha
  have := List.all_eq_true.1 h.2.2.1 a ha
  simpa using this
theorem isArcs_ne {l : List Nat} (h : isArcs l = true) : l ≠ [] := by
  intro e; subst e; have := isArcs_len h; simp at this
/-- The arcs of a text. -/
def arcs (s : List UInt8) : Option (List Nat) := if isArcs (sp s 0) && put (sp s 0) == s then some (sp s 0) else none
theorem arcs_iff (s : List UInt8) (l : List Nat) : arcs s = some l ↔ isArcs l = true ∧ put l = s := by
  unfold arcs
  constructor
  · intro h
    by_cases hc : (isArcs (sp s 0) && put (sp s 0) == s) = true
    · rw [if_pos hc] at h
      cases h
      rw [Bool.and_eq_true, beq_iff_eq] at hc
      exact hc
    · rw [if_neg hc] at h; cases h
  · rintro ⟨h1, rfl⟩
    have e : sp (put l) 0 = l := sp_put l (isArcs_ne h1) (fun a ha => by have := isArcs_le h1 a ha; omega)
    rw [e, if_pos (by rw [h1]; simp)]
theorem arcs_put {l : List Nat} (h : isArcs l = true) : arcs (put l) = some l := (arcs_iff _ _).2 ⟨h, rfl⟩
theorem put_inj {a b : List Nat} (ha : isArcs a = true) (hb : isArcs b = true) (h : put a = put b) : a = b := by
  have h1 := arcs_put ha
  rw [h, arcs_put hb] at h1
  exact (Option.some.inj h1).symm
theorem put_app : ∀ (a : List Nat) (x : Nat) (b : List Nat), a ≠ [] → put (a ++ x :: b) = put a ++ (46 :: put (x :: b))
  | [], _, _, h => absurd rfl h
  | [a], x, b, _ => rfl
  | a :: c :: r, x, b, _ => by
    show nm a ++ (46 :: put (c :: r ++ x :: b)) = (nm a ++ (46 :: put (c :: r))) ++ _
    rw [put_app (c :: r) x b (by simp), List.append_assoc]; rfl
theorem put_len : ∀ (l : List Nat), (∀ a ∈ l, a ≤ 4294967295) → (put l).length ≤ 11 * l.length
  | [], _ => Nat.le_refl 0
  | [a], h => by
    have := nm_len a (by have := h a (by simp); omega)
    show (nm a).length ≤ _; simp; omega
  | a :: b :: r, h => by
    have h1 := nm_len a (by have := h a (by simp); omega)
    have h2 := put_len (b :: r) (fun x hx => h x (by simp [List.mem_cons] at hx ⊢; right; exact hx))
    rw [put_cons, List.length_append, List.length_cons]
    simp only [List.length_cons] at h2 ⊢; omega

/-! ### The order -/
def lt : List Nat → List Nat → Bool
  | [], [] => false
  | [], _ :: _ => true
  | _ :: _, [] => false
  | a :: x, b :: y => if a = b then lt x y else decide (a < b)
theorem lt_cons (a b : Nat) (x y : List Nat) : lt (a :: x) (b :: y) = if a = b then lt x y else decide (a < b) := rfl
theorem lt_self : ∀ a : List Nat, lt a a = false
  | [] => rfl
  | a :: x => by rw [lt_cons, if_pos rfl, lt_self x]
theorem lt_not : ∀ a b : List Nat, lt a b = true → lt b a = false
  | [], [], h => by cases h
  | [], _ :: _, _ => rfl
  | _ :: _, [], h => by cases h
  | a :: x, b :: y, h => by
    rw [lt_cons] at h ⊢
    by_cases e : a = b
    · rw [if_pos e] at h; rw [if_pos e.symm]; exact lt_not x y h
    · rw [if_neg e] at h; rw [if_neg (fun e2 => e e2.symm)]
      rw [decide_eq_true_eq] at h
      rw [decide_eq_false (by omega)]
theorem lt_total : ∀ a b : List Nat, a ≠ b → lt a b = true ∨ lt b a = true
  | [], [], h => absurd rfl h
  | [], _ :: _, _ => .inl rfl
  | _ :: _, [], _ => .inr rfl
  | a :: x, b :: y, h => by
    rw [lt_cons, lt_cons]
    by_cases e : a = b
    · rw [if_pos e, if_pos e.symm]
      exact lt_total x y (fun e2 => h (by rw [e, e2]))
    · rw [if_neg e, if_neg (fun e2 => e e2.symm)]
      rcases Nat.lt_or_ge a b with h1 | h1
      · left; rw [decide_eq_true h1]
      · right; rw [decide_eq_true (by omega)]
theorem lt_trans : ∀ a b c : List Nat, lt a b = true → lt b c = true → lt a c = true
  | [], [], _, h, _ => by cases h
  | [], _ :: _, [], _, h => by cases h
  | [], _ :: _, _ :: _, _, _ => rfl
  | _ :: _, [], _, h, _ => by cases h
  | _ :: _, _ :: _, [], _, h => by cases h
  | a :: x, b :: y, c :: z, h, k => by
    rw [lt_cons] at h k ⊢
    by_cases e1 : a = b
    · rw [if_pos e1] at h
      by_cases e2 : b = c
      · rw [if_pos e2] at k
        rw [if_pos (e1.trans e2)]; exact lt_trans x y z h k
      · rw [if_neg e2] at k
        rw [if_neg (fun e => e2 (e1.symm.trans e)), e1]; exact k
    · rw [if_neg e1, decide_eq_true_eq] at h
      by_cases e2 : b = c
      · rw [if_neg (fun e => e1 (e.trans e2.symm)), decide_eq_true_eq]; omega
      · rw [if_neg e2, decide_eq_true_eq] at k
        rw [if_neg (by omega), decide_eq_true_eq]; omega
def within (r s : List Nat) : Bool := r.isPrefixOf s
theorem within_iff (r s : List Nat) : within r s = true ↔ ∃ t, s = r ++ t := by
  unfold within
  rw [List.isPrefixOf_iff_prefix]
  exact ⟨fun ⟨t, h⟩ => ⟨t, h.symm⟩, fun ⟨t, h⟩ => ⟨t, h.symm⟩⟩
theorem within_self (a : List Nat) : within a a = true := (within_iff a a).2 ⟨[], by simp⟩
theorem lt_app : ∀ (r : List Nat) (x : Nat) (t : List Nat), lt r (r ++ x :: t) = true
  | [], _, _ => rfl
  | a :: r, x, t => by rw [List.cons_append, lt_cons, if_pos rfl]; exact lt_app r x t
theorem within_lt {a b : List Nat} (h : within a b = true) (hn : a ≠ b) : lt a b = true := by
  obtain ⟨t, rfl⟩ := (within_iff a b).1 h
  cases t with
  | nil => exact absurd (by simp) hn
  | cons x t => exact lt_app a x t
/-- What is within one stands ahead of all that stand behind it and are not within it. -/
theorem within_ahead : ∀ (a t c : List Nat), within a c = false → lt a c = true → lt (a ++ t) c = true
  | [], t, c, h, _ => by cases h
  | a :: r, t, [], _, h => by cases h
  | a :: r, t, c :: z, h, k => by
    rw [lt_cons] at k
    rw [List.cons_append, lt_cons]
    by_cases e : a = c
    · rw [if_pos e] at k ⊢
      refine within_ahead r t z ?_ k
      cases hw : within r z
      · rfl
      · exfalso
        obtain ⟨u, hu⟩ := (within_iff r z).1 hw
        have : within (a :: r) (c :: z) = true := (within_iff _ _).2 ⟨u, by rw [hu, e]; rfl⟩
        rw [this] at h; cases h
    · rw [if_neg e] at k ⊢; exact k
/-- Children stand in the order of their arcs. -/
theorem lt_child : ∀ (s : List Nat) (a b : Nat), lt (s ++ [a]) (s ++ [b]) = decide (a < b)
  | [], a, b => by
    show (if a = b then lt [] [] else decide (a < b)) = _
    by_cases e : a = b
    · rw [if_pos e, decide_eq_false (by omega)]; rfl
    · rw [if_neg e]
  | c :: s, a, b => by rw [List.cons_append, List.cons_append, lt_cons, if_pos rfl]; exact lt_child s a b
end O6
end Go.Proofs.YtmdibafofdghgaaGreatDoor
