/- The program's spelled, reads and gap, walked. -/
import Derived.Test.YtkobjbmjefkmgaaDoorLxqI
import Derived.Test.YtkobjbmjefkmgaaDoorLxqJ
import Derived.Test.YtkobjbmjefkmgaaDoorLexS
import Derived.ChangeKeysEq
import Derived.Laws.StructEq
namespace Go.Proofs.YtkobjbmjefkmgaaDoor
open Go.ChangeShapes Go.WideShapes Go.ChangeAt Go.RowKit K L14
set_option linter.unusedVariables false

/-- A token as it stands in a file, if it is one. -/
def spQ (x : Tq) : List UInt8 := if x.k = 3 then 36 :: x.t else if x.k = 4 then quo x.t else x.t
theorem spQ_put {x : Tq} (h : isT (kN x.k) x.t = true) : spQ x = put (kN x.k) x.t := by
  have hk := kN_tok h
  generalize hn : kN x.k = n at *
  unfold isT at h
  unfold spQ put
  by_cases k1 : n = 1
  · subst k1; rw [if_pos rfl] at h; rw [if_neg (by omega), if_neg (by omega), if_pos rfl, h]; rfl
  rw [if_neg k1] at h ⊢
  by_cases k2 : n = 2
  · subst k2; rw [if_pos rfl] at h; rw [if_neg (by omega), if_neg (by omega), if_pos rfl, h]; rfl
  rw [if_neg k2] at h ⊢
  by_cases k3 : n = 3
  · subst k3; rw [if_pos rfl] at h; rw [if_pos (by omega), if_pos rfl, h]; rfl
  rw [if_neg k3] at h ⊢
  by_cases k4 : n = 4
  · subst k4; rw [if_neg (by omega), if_pos (by omega), if_pos rfl]
  rw [if_neg k4] at h ⊢
  by_cases k5 : n = 5
  · subst k5; rw [if_pos rfl] at h; rw [if_neg (by omega), if_neg (by omega), if_pos rfl, h]; rfl
  rw [if_neg k5] at h
  cases h
theorem nxt_put0 {k : Nat} {t : List UInt8} (h : isT k t = true) : nxt (put k t) = some ((k, t), (put k t).length) := by
  unfold isT at h
  unfold put
  by_cases k1 : k = 1
  · subst k1
    rw [if_pos rfl] at h ⊢
    rw [if_pos h]
    unfold isW at h
    cases t with
    | nil => cases h
    | cons c t =>
      rw [Bool.and_eq_true, beq_iff_eq] at h
      obtain ⟨s1, _, _⟩ := lt_not h.1
      simp only [nxt]
      rw [if_neg (by rw [s1]; decide), if_pos h.1, h.2, List.take_length]
  rw [if_neg k1] at h ⊢
  by_cases k2 : k = 2
  · subst k2
    rw [if_pos rfl] at h ⊢
    rw [if_pos h]
    unfold isF at h
    cases t with
    | nil => cases h
    | cons c t =>
      rw [Bool.and_eq_true, beq_iff_eq] at h
      obtain ⟨s1, s2, _, _⟩ := dg_not h.1
      simp only [nxt]
      rw [if_neg (by rw [s1]; decide), if_neg (by rw [s2]; decide), if_pos h.1, h.2, List.take_length]
  rw [if_neg k2] at h ⊢
  by_cases k3 : k = 3
  · subst k3
    rw [if_pos rfl] at h ⊢
    rw [if_pos h]
    unfold isD at h
    rw [Bool.and_eq_true, beq_iff_eq] at h
    have hpos : t.length ≠ 0 := by
      intro e
      have : t = [] := List.length_eq_zero_iff.1 e
      subst this; cases h.1
    simp only [nxt]
    rw [if_neg (by decide), if_neg (by decide), if_neg (by decide), if_pos trivial, h.2, if_neg hpos, List.take_length]
    rfl
  rw [if_neg k3] at h ⊢
  by_cases k4 : k = 4
  · subst k4
    rw [if_pos rfl]
    unfold quo
    simp only [nxt]
    rw [if_neg (by decide), if_neg (by decide), if_neg (by decide), if_neg (by decide), if_pos trivial, text_q]
    simp
  rw [if_neg k4] at h ⊢
  by_cases k5 : k = 5
  · subst k5
    rw [if_pos rfl] at h ⊢
    rw [if_pos h]
    unfold isS at h
    match t, h with
    | [c], h =>
      simp only [nxt]
      rw [if_pos h]
      rfl
  rw [if_neg k5] at h
  cases h
/-- Whether a text is read as a token, whole. -/
def rdB (s : List UInt8) (x : Tq) : Bool := match nxP s with | some ((k, t), r) => r.isEmpty && (decide ((k : Int) = x.k) && decide (t = x.t)) | none => false
theorem rd_is (x : Tq) : rdB (spQ x) x = isT (kN x.k) x.t := by
  cases h : isT (kN x.k) x.t with
  | true =>
    have hp := nxt_put0 h
    unfold rdB nxP
    rw [spQ_put h, hp]
    simp [kN_tok h]
  | false =>
    unfold rdB
    cases hx : nxP (spQ x) with
    | none => rfl
    | some y =>
      obtain ⟨⟨k, t⟩, r⟩ := y
      obtain ⟨n, h1, -⟩ := nxP_some hx
      have hT := nxt_is h1
      simp only
      by_cases hk : (k : Int) = x.k
      · by_cases ht : t = x.t
        · rw [← hk, tok_kN hT, ← ht, hT] at h; cases h
        · simp [ht]
      · simp [hk]
theorem rd_nil (x : Tq) : rdB [] x = false := rfl
theorem spQ_len (x : Tq) : (spQ x).length ≤ 4 * x.t.length + 2 := by
  unfold spQ
  have hq := (qbd_len x.t).2
  split
  · simp; omega
  · split
    · unfold quo; simp; omega
    · omega
set_option maxRecDepth 100000 in
set_option maxHeartbeats 1000000 in
theorem lspelled_walk (x : Tq) (hx : x.t.length ≤ 1000000000) (w : World) : Calls Tryd.prog 24 #[.agg #[.int .i64 x.k, .string (bs x.t), .int .i64 x.l]] w fun e w' => e = .returned (.string (bs (spQ x))) ∧ Below w.heap.size w w' := by
  obtain ⟨k, t, l⟩ := x
  simp only at hx ⊢
  have hR0 := rowNew w (.cells #[.int .i64 k, .string (bs t), .int .i64 l] 33)
  have z0 := cellRow hR0 0
  have z1 := cellRow hR0 1
  have HB := Lib.hid ((Below.refl w.heap.size w).alloc (Nat.le_refl _) (.cells #[.int .i64 k, .string (bs t), .int .i64 l] 33))
  have HQ := Lib.hid (fun w1 => lQuote_walk t hx w1)
  have HBI := Lib.hid (below_in w (.cells #[.int .i64 k, .string (bs t), .int .i64 l] 33))
  clear hR0
  by_cases k3 : k = 3
  · subst k3
    have HX := Lib.hid (show spQ ⟨3, t, l⟩ = [36] ++ t from rfl)
    go_enter Tryd.func24, Tryd.ntmps24
    go_wp2
    go_ret
    rw [HX.out, ← bs_append]
    exact ⟨rfl, HB.out⟩
  by_cases k4 : k = 4
  · subst k4
    have HX := Lib.hid (show spQ ⟨4, t, l⟩ = quo t from rfl)
    clear k3
    go_enter Tryd.func24, Tryd.ntmps24
    go_wp2_with fail
    refine (HQ.out _).mono ?_
    rintro e w1 ⟨rfl, b1⟩
    have HB1 := Lib.hid (HBI.out _ b1)
    clear b1
    go_wp2
    go_ret
    rw [HX.out]
    exact ⟨rfl, HB1.out⟩
  · have HX := Lib.hid (show spQ ⟨k, t, l⟩ = t by unfold spQ; rw [if_neg k3, if_neg k4])
    have e3 : (k == 3) = false := by rw [beq_eq_false_iff_ne]; exact k3
    have e4 : (k == 4) = false := by rw [beq_eq_false_iff_ne]; exact k4
    clear k3 k4
    go_enter Tryd.func24, Tryd.ntmps24
    go_wp2
    go_ret
    rw [HX.out]
    exact ⟨rfl, HB.out⟩
theorem run_equal_tok (x y : Tq) (w : World) : (Op.equalIn 10000 33 (.agg #[.int .i64 x.k, .string (bs x.t), .int .i64 x.l]) (.agg #[.int .i64 y.k, .string (bs y.t), .int .i64 y.l])).run Tryd.prog w = .ok ((x.k == y.k) && ((x.t == y.t) && (x.l == y.l))) w := by
  obtain ⟨a, b, c⟩ := x
  obtain ⟨a', b', c'⟩ := y
  simp [go_sem, Tryd.underlying33]
  by_cases h1 : a = a'
  · by_cases h2 : b = b'
    · by_cases h3 : c = c'
      · simp [h1, h2, h3]
      · simp [h1, h2, h3]
    · simp [h1, h2]
  · simp [h1]
/-- The very line that is asked for. -/
theorem eq_tok (k : Nat) (t : List UInt8) (x : Tq) (w : World) : (Op.equalIn 10000 33 (.agg #[.int .i64 (k : Nat), .string (bs t), .int .i64 x.l]) (.agg #[.int .i64 x.k, .string (bs x.t), .int .i64 x.l])).run Tryd.prog w = .ok (decide ((k : Int) = x.k) && decide (t = x.t)) w := by
  have h := run_equal_tok ⟨(k : Int), t, x.l⟩ x w
  have e : (((k : Int) == x.k) && ((t == x.t) && (x.l == x.l))) = (decide ((k : Int) = x.k) && decide (t = x.t)) := by
    by_cases h1 : (k : Int) = x.k
    · by_cases h2 : t = x.t
      · simp [h1, h2]
      · simp [h1, h2]
    · simp [h1]
  exact h.trans (by rw [e])
set_option maxRecDepth 100000 in
set_option maxHeartbeats 1000000 in
theorem lreads_walk (s : List UInt8) (hs : s.length ≤ 140737488351232) (x : Tq) (w : World) (T : LxI w) : Calls Tryd.prog 25 #[.string (bs s), .agg #[.int .i64 x.k, .string (bs x.t), .int .i64 x.l]] w fun e w' => e = .returned (.bool (rdB s x)) ∧ Below w.heap.size w w' := by
  have HB := Lib.hid ((Below.refl w.heap.size w).alloc (Nat.le_refl _) (.cells #[.int .i64 x.k, .string (bs x.t), .int .i64 x.l] 33))
  have HBI := Lib.hid (below_in w (.cells #[.int .i64 x.k, .string (bs x.t), .int .i64 x.l] 33))
  cases s with
  | nil =>
    go_enter Tryd.func25, Tryd.ntmps25
    go_wp2
    go_ret
    exact ⟨rfl, HB.out⟩
  | cons c t =>
    have hne : (c :: t).isEmpty = false := rfl
    have hpos : 0 < (c :: t).length := by simp
    have hR0 := Lib.hid (rowNew w (.cells #[.int .i64 x.k, .string (bs x.t), .int .i64 x.l] 33))
    have hN := lnext_walk c t hs _ (T.below HB.out)
    unfold TkPost at hN
    have hX : rdB (c :: t) x = match nxP (c :: t) with | some ((k, t), r) => r.isEmpty && (decide ((k : Int) = x.k) && decide (t = x.t)) | none => false := rfl
    cases hx : nxP (c :: t) with
    | none =>
      rw [hx] at hN hX
      have HX := Lib.hid hX
      have HN := Lib.hid hN
      clear hN hX hx T
      generalize c :: t = S at *
      go_enter Tryd.func25, Tryd.ntmps25
      go_wp2_with fail
      refine HN.out.mono ?_
      rintro e w2 ⟨rfl, b2⟩
      have hA := (b2.block w.heap.size (by simp)).trans hR0.out
      have hlt := lt_of_block hA
      have hA0 := (Lib.alloc_old w2 (.cells #[.int .i64 0, .string (bs []), .int .i64 0] 33) _ hlt).trans hA
      have hA1 := (Lib.alloc_old w2 (.cells #[.int .i64 0, .string (bs []), .int .i64 x.l] 33) _ hlt).trans hA
      have z2 := cellRow hA0 2
      have y0 := cellRow hA1 0
      have y1 := cellRow hA1 1
      have y2 := cellRow hA1 2
      have HB2 := Lib.hid (fun X => (HBI.out _ b2).alloc (HBI.out _ b2).size X)
      clear b2 hA hA0 hA1 hlt
      go_wp2
      go_ret
      rw [HX.out]
      exact ⟨rfl, HB2.out _⟩
    | some y =>
      obtain ⟨⟨k, tt⟩, r⟩ := y
      rw [hx] at hN hX
      have HX := Lib.hid (show rdB (c :: t) x = (r.isEmpty && (decide ((k : Int) = x.k) && decide (tt = x.t))) from hX)
      have HN := Lib.hid hN
      have hq := eq_tok k tt x
      generalize (decide ((k : Int) = x.k) && decide (tt = x.t)) = bb at *
      clear hN hX hx T
      generalize c :: t = S at *
      go_enter Tryd.func25, Tryd.ntmps25
      go_wp2_with fail
      refine HN.out.mono ?_
      rintro e w2 ⟨rfl, b2⟩
      have hA := (b2.block w.heap.size (by simp)).trans hR0.out
      have hlt := lt_of_block hA
      have hA0 := (Lib.alloc_old w2 (.cells #[.int .i64 (k : Nat), .string (bs tt), .int .i64 0] 33) _ hlt).trans hA
      have hA1 := (Lib.alloc_old w2 (.cells #[.int .i64 (k : Nat), .string (bs tt), .int .i64 x.l] 33) _ hlt).trans hA
      have z2 := cellRow hA0 2
      have y0 := cellRow hA1 0
      have y1 := cellRow hA1 1
      have y2 := cellRow hA1 2
      have HB2 := Lib.hid (fun X => (HBI.out _ b2).alloc (HBI.out _ b2).size X)
      clear b2 hA hA0 hA1 hlt
      cases r with
      | nil =>
        go_wp2
        go_ret
        rw [HX.out]
        exact ⟨rfl, HB2.out _⟩
      | cons a r =>
        have hre : (a :: r).isEmpty = false := rfl
        have HX2 := Lib.hid (show rdB S x = false by rw [HX.out]; rfl)
        clear HX
        generalize a :: r = R at *
        go_wp2
        go_ret
        rw [HX2.out]
        exact ⟨rfl, HB2.out _⟩
theorem gap_has : ∀ c : Fin 256, decide (0 ≤ Lib.indexByte [59, 123, 125] (UInt8.ofNat c.val)) = (decide (c.val = 59) || decide (c.val = 123) || decide (c.val = 125)) := by decide +kernel
theorem gap_of (c : UInt8) : decide (0 ≤ Lib.indexByte [59, 123, 125] c) = decide ([c] = [59] ∨ [c] = [123] ∨ [c] = [125]) := by
  have h := gap_has ⟨c.toNat, c.toNat_lt⟩
  simp only [UInt8.ofNat_toNat] at h
  rw [h]
  have e : ∀ n : Nat, n < 256 → (c.toNat = n ↔ c = UInt8.ofNat n) := fun n hn => ⟨fun h => by rw [← h]; simp, fun h => by rw [h]; simp; omega⟩
  by_cases h1 : c = 59
  · rw [h1]; rfl
  by_cases h2 : c = 123
  · rw [h2]; rfl
  by_cases h3 : c = 125
  · rw [h3]; rfl
  have n1 : ¬ c.toNat = 59 := fun x => h1 ((e 59 (by decide)).1 x)
  have n2 : ¬ c.toNat = 123 := fun x => h2 ((e 123 (by decide)).1 x)
  have n3 : ¬ c.toNat = 125 := fun x => h3 ((e 125 (by decide)).1 x)
  simp [n1, n2, n3, h1, h2, h3]
set_option maxRecDepth 100000 in
set_option maxHeartbeats 1000000 in
theorem lgap_walk (x : Tq) (h : isT (kN x.k) x.t = true) (w : World) : Calls Tryd.prog 27 #[.agg #[.int .i64 x.k, .string (bs x.t), .int .i64 x.l]] w fun e w' => e = .returned (.string (bs (bhd (kN x.k) x.t))) ∧ Below w.heap.size w w' := by
  obtain ⟨k, t, l⟩ := x
  simp only at h ⊢
  have hk := kN_tok h
  have hR0 := rowNew w (.cells #[.int .i64 k, .string (bs t), .int .i64 l] 33)
  have z0 := cellRow hR0 0
  have z1 := cellRow hR0 1
  have HB := Lib.hid ((Below.refl w.heap.size w).alloc (Nat.le_refl _) (.cells #[.int .i64 k, .string (bs t), .int .i64 l] 33))
  clear hR0
  by_cases k5 : k = 5
  · subst k5
    have h5 : isT 5 t = true := h
    match t, h5 with
    | [c], _ =>
      have hc := Tryd.strings_Contains_one ⟨#[59, 123, 125]⟩ c (w.alloc (.cells #[.int .i64 5, .string (bs [c]), .int .i64 l] 33))
      rw [show (⟨#[59, 123, 125]⟩ : ByteArray).data.toList = [59, 123, 125] from rfl, gap_of] at hc
      have HC := Lib.hid hc
      have HX := Lib.hid (show bhd (kN 5) [c] = if ([c] = [59] ∨ [c] = [123] ∨ [c] = [125]) then [10] else [32] by
        unfold bhd
        by_cases hh : [c] = [59] ∨ [c] = [123] ∨ [c] = [125]
        · rw [if_pos ⟨rfl, hh⟩, if_pos hh]
        · rw [if_neg (fun q => hh q.2), if_neg hh])
      clear hc hk h
      by_cases hh : [c] = [59] ∨ [c] = [123] ∨ [c] = [125]
      · rw [decide_eq_true hh] at HC
        rw [if_pos hh] at HX
        clear hh
        go_enter Tryd.func27, Tryd.ntmps27
        go_wp2_with fail
        refine HC.out.mono ?_
        rintro e w1 ⟨rfl, rfl⟩
        go_wp2
        go_ret
        rw [HX.out]
        exact ⟨rfl, HB.out⟩
      · rw [decide_eq_false hh] at HC
        rw [if_neg hh] at HX
        clear hh
        go_enter Tryd.func27, Tryd.ntmps27
        go_wp2_with fail
        refine HC.out.mono ?_
        rintro e w1 ⟨rfl, rfl⟩
        go_wp2
        go_ret
        rw [HX.out]
        exact ⟨rfl, HB.out⟩
  · have HX := Lib.hid (show bhd (kN k) t = [32] by unfold bhd; rw [if_neg (fun q => k5 (kN5.1 q.1))])
    have e5 : (k == 5) = false := by rw [beq_eq_false_iff_ne]; exact k5
    clear k5 hk h
    go_enter Tryd.func27, Tryd.ntmps27
    go_wp2
    go_ret
    rw [HX.out]
    exact ⟨rfl, HB.out⟩
end Go.Proofs.YtkobjbmjefkmgaaDoor
