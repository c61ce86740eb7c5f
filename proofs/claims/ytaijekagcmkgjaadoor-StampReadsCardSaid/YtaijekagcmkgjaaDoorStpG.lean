/- The document's own Parse, walked. -/
import Derived.Test.YtaijekagcmkgjaaDoorStpF
namespace Go.Proofs.YtaijekagcmkgjaaDoor
open Go.ChangeShapes Go.WideShapes Go.ChangeAt Go.RowKit K S3
set_option linter.unusedVariables false

theorem da_step (y k : Nat) : da y (k + 1) = da y k + dim y k := by unfold dim; omega
def MRel (y m : Nat) (T0 : Int) (v15 v16 : Value) : Prop := ∃ k : Nat, 1 ≤ k ∧ k ≤ m ∧ v16 = .int .i64 k ∧ v15 = .int .i64 (T0 + da y k)
/-- What Parse answers, of a stamp that is right in form, in a year from 1969 to 2100. -/
structure Right (l : List UInt8) (T0 : Int) (y m : Nat) (h i c z : Int) (f : Nat) : Prop where
  no : ∀ t, t = (T0 + da y m) * 86400 + (h * 60 + i - z) * 60 + c → (t < 0 ∨ 2305843009 < t ∨ 2305843009213693952 < t * 1000000000 + f) → prsV l = 0 ∧ prsC l = 30
  yes : ∀ t, t = (T0 + da y m) * 86400 + (h * 60 + i - z) * 60 + c → 0 ≤ t → t ≤ 2305843009 → t * 1000000000 + f ≤ 2305843009213693952 → prsV l = t * 1000000000 + f ∧ prsC l = 0
theorem right_of {l : List UInt8} (s : Seps l) (n : Nums5 l) (f : fOk (l.drop 19) = true) (z : rzOk (fL (l.drop 19)) = true) :
    Right l (ya (gY l).toNat + gD l - 1) (gY l).toNat (gM l).toNat (gH l) (gI l) (gC l) (rzV (fL (l.drop 19))) (fV (l.drop 19)) := by
  obtain ⟨h1, h2, h3⟩ := p_mk s n f z
  constructor
  · intro t ht hc
    have e : pS l = t := by rw [h2, ht]; omega
    refine pGood_no l ?_
    rw [e, h3]; omega
  · intro t ht a b c
    have e : pS l = t := by rw [h2, ht]; omega
    have := pGood_yes l h1 (by omega) (by omega) (by rw [e, h3]; exact c)
    rw [this.1, this.2, e, h3]; exact ⟨rfl, rfl⟩

set_option maxRecDepth 100000 in
set_option maxHeartbeats 4000000 in
theorem qparse_seps (l : List UInt8) (hl : l.length ≤ 140737488351232) (hs : ¬ Seps l) (w : World) :
    Calls Tryd.prog 10 #[.string (bs l)] w fun e w' => e = .returned (.tuple #[.int .i64 0, .int .i64 30]) ∧ Drew w w' := by
  by_cases h20 : 20 ≤ l.length
  · have hI : (20 : Int) ≤ ((l.length : Nat) : Int) := by omega
    have hno : ((((byt l 4 : Nat) : Int) != 45) = true) ∨ ((((byt l 4 : Nat) : Int) != 45) = false ∧ (((byt l 7 : Nat) : Int) != 45) = true)
      ∨ ((((byt l 4 : Nat) : Int) != 45) = false ∧ (((byt l 7 : Nat) : Int) != 45) = false ∧ (((byt l 10 : Nat) : Int) != 84) = true)
      ∨ ((((byt l 4 : Nat) : Int) != 45) = false ∧ (((byt l 7 : Nat) : Int) != 45) = false ∧ (((byt l 10 : Nat) : Int) != 84) = false ∧ (((byt l 13 : Nat) : Int) != 58) = true)
      ∨ ((((byt l 4 : Nat) : Int) != 45) = false ∧ (((byt l 7 : Nat) : Int) != 45) = false ∧ (((byt l 10 : Nat) : Int) != 84) = false ∧ (((byt l 13 : Nat) : Int) != 58) = false ∧ (((byt l 16 : Nat) : Int) != 58) = true) := by
      simp only [bne_iff_ne, bne_eq_false_iff_eq]
      by_cases a4 : (byt l 4 : Int) = 45
      · by_cases a7 : (byt l 7 : Int) = 45
        · by_cases a10 : (byt l 10 : Int) = 84
          · by_cases a13 : (byt l 13 : Int) = 58
            · by_cases a16 : (byt l 16 : Int) = 58
              · exact absurd ⟨h20, a4, a7, a10, a13, a16⟩ hs
              · exact Or.inr (Or.inr (Or.inr (Or.inr ⟨a4, a7, a10, a13, a16⟩)))
            · exact Or.inr (Or.inr (Or.inr (Or.inl ⟨a4, a7, a10, a13⟩)))
          · exact Or.inr (Or.inr (Or.inl ⟨a4, a7, a10⟩))
        · exact Or.inr (Or.inl ⟨a4, a7⟩)
      · exact Or.inl a4
    clear hs
    rcases hno with a | ⟨a, b⟩ | ⟨a, b, c⟩ | ⟨a, b, c, d⟩ | ⟨a, b, c, d, e⟩
    all_goals
      go_enter Tryd.func10, Tryd.ntmps10
      go_wp2
      go_ret2
      exact ⟨rfl, Drew.refl _⟩
  · have hI : ((l.length : Nat) : Int) < 20 := by omega
    clear hs h20
    go_enter Tryd.func10, Tryd.ntmps10
    go_wp2
    go_ret2
    exact ⟨rfl, Drew.refl _⟩

/-- The eleven ways in which the numbers may be wrong, in the order in which they are asked. -/
theorem nums_no {l : List UInt8} (hn : ¬ Nums5 l) {Y M D H I C dd : Int} (eY : gY l = Y) (eM : gM l = M) (eD : gD l = D) (eH : gH l = H) (eI : gI l = I) (eC : gC l = C) (ed : dim (gY l).toNat (gM l).toNat = dd) :
    Y < 0 ∨ (0 ≤ Y ∧ M < 1) ∨ (0 ≤ Y ∧ 1 ≤ M ∧ 12 < M) ∨ (0 ≤ Y ∧ 1 ≤ M ∧ M ≤ 12 ∧ D < 1) ∨
    ((0 ≤ Y ∧ 1 ≤ M ∧ M ≤ 12 ∧ 1 ≤ D) ∧ (dd < D ∨ (D ≤ dd ∧ H < 0) ∨ (D ≤ dd ∧ 0 ≤ H ∧ 23 < H) ∨ (D ≤ dd ∧ 0 ≤ H ∧ H ≤ 23 ∧ I < 0) ∨ (D ≤ dd ∧ 0 ≤ H ∧ H ≤ 23 ∧ 0 ≤ I ∧ 59 < I) ∨ (D ≤ dd ∧ 0 ≤ H ∧ H ≤ 23 ∧ 0 ≤ I ∧ I ≤ 59 ∧ C < 0) ∨ (D ≤ dd ∧ 0 ≤ H ∧ H ≤ 23 ∧ 0 ≤ I ∧ I ≤ 59 ∧ 0 ≤ C ∧ 59 < C))) := by
  have key : ¬ (0 ≤ Y ∧ 1 ≤ M ∧ M ≤ 12 ∧ 1 ≤ D ∧ D ≤ dd ∧ 0 ≤ H ∧ H ≤ 23 ∧ 0 ≤ I ∧ I ≤ 59 ∧ 0 ≤ C ∧ C ≤ 59) := by
    rintro ⟨a, b, c, d, e, f, g, h, i, j, k⟩
    exact hn ⟨by omega, by omega, by omega, by omega, by omega, by omega, by omega, by omega, by omega, by omega, by omega⟩
  omega

set_option maxRecDepth 100000 in
set_option maxHeartbeats 4000000 in
theorem qparse_nums (l : List UInt8) (hl : l.length ≤ 140737488351232) (hs : Seps l) (hn : ¬ Nums5 l) (w : World) :
    Calls Tryd.prog 10 #[.string (bs l)] w fun e w' => e = .returned (.tuple #[.int .i64 0, .int .i64 30]) ∧ Drew w w' := by
  obtain ⟨h20, s4, s7, s10, s13, s16⟩ := hs
  have q4 := fun w1 => qnumber_walk (l.take 4) (by rw [List.length_take]; omega) w1
  have q5 := fun w1 => qnumber_walk ((l.drop 5).take 2) (by rw [List.length_take]; omega) w1
  have q8 := fun w1 => qnumber_walk ((l.drop 8).take 2) (by rw [List.length_take]; omega) w1
  have q11 := fun w1 => qnumber_walk ((l.drop 11).take 2) (by rw [List.length_take]; omega) w1
  have q14 := fun w1 => qnumber_walk ((l.drop 14).take 2) (by rw [List.length_take]; omega) w1
  have q17 := fun w1 => qnumber_walk ((l.drop 17).take 2) (by rw [List.length_take]; omega) w1
  have hY9 : gY l ≤ 9999 := by
    have := numI_lt (l.take 4) 4 (by rw [List.length_take]; omega)
    unfold gY; simp at this; omega
  have hday := fun (a : 0 ≤ gY l) (b : 1 ≤ gM l) (c : gM l ≤ 12) w1 => days_walk (gY l).toNat (gM l).toNat (by omega) (by omega) (by omega) w1
  have hno := nums_no hn (Y := gY l) (M := gM l) (D := gD l) (H := gH l) (I := gI l) (C := gC l) rfl rfl rfl rfl rfl rfl rfl
  have hdd : ∀ (b : 1 ≤ gM l) (c : gM l ≤ 12), 28 ≤ dim (gY l).toNat (gM l).toNat ∧ dim (gY l).toNat (gM l).toNat ≤ 31 := fun b c => dim_in _ _ (by omega) (by omega)
  have hday2 : ∀ (a : 0 ≤ gY l) (b : 1 ≤ gM l) (c : gM l ≤ 12) w1, Calls Tryd.prog 29 #[.int .i64 (gY l), .int .i64 (gM l)] w1 fun e w' => e = .returned (.int .i64 (dim (gY l).toNat (gM l).toNat)) ∧ w1 = w' := by
    intro a b c w1
    have := hday a b c w1
    rwa [Int.toNat_of_nonneg a, Int.toNat_of_nonneg (by omega)] at this
  clear hday hn
  change ∀ w1, Calls _ _ _ w1 fun e w' => e = .returned (.int .i64 (gY l)) ∧ w1 = w' at q4
  change ∀ w1, Calls _ _ _ w1 fun e w' => e = .returned (.int .i64 (gM l)) ∧ w1 = w' at q5
  change ∀ w1, Calls _ _ _ w1 fun e w' => e = .returned (.int .i64 (gD l)) ∧ w1 = w' at q8
  change ∀ w1, Calls _ _ _ w1 fun e w' => e = .returned (.int .i64 (gH l)) ∧ w1 = w' at q11
  change ∀ w1, Calls _ _ _ w1 fun e w' => e = .returned (.int .i64 (gI l)) ∧ w1 = w' at q14
  change ∀ w1, Calls _ _ _ w1 fun e w' => e = .returned (.int .i64 (gC l)) ∧ w1 = w' at q17
  generalize dim (gY l).toNat (gM l).toNat = dd at *
  generalize gY l = Y at *
  generalize gM l = M at *
  generalize gD l = D at *
  generalize gH l = H at *
  generalize gI l = I at *
  generalize gC l = C at *
  have Q4 := Lib.hid q4; have Q5 := Lib.hid q5; have Q8 := Lib.hid q8; have Q11 := Lib.hid q11; have Q14 := Lib.hid q14; have Q17 := Lib.hid q17; have HD := Lib.hid hday2; have HDD := Lib.hid hdd
  have b4 : (((byt l 4 : Nat) : Int) != 45) = false := by rw [bne_eq_false_iff_eq]; exact s4
  have b7 : (((byt l 7 : Nat) : Int) != 45) = false := by rw [bne_eq_false_iff_eq]; exact s7
  have b10 : (((byt l 10 : Nat) : Int) != 84) = false := by rw [bne_eq_false_iff_eq]; exact s10
  have b13 : (((byt l 13 : Nat) : Int) != 58) = false := by rw [bne_eq_false_iff_eq]; exact s13
  have b16 : (((byt l 16 : Nat) : Int) != 58) = false := by rw [bne_eq_false_iff_eq]; exact s16
  have i20 : (20 : Int) ≤ ((l.length : Nat) : Int) := by omega
  have i4 : (4 : Int) ≤ ((l.length : Nat) : Int) := by omega
  have i7 : (7 : Int) ≤ ((l.length : Nat) : Int) := by omega
  have i10 : (10 : Int) ≤ ((l.length : Nat) : Int) := by omega
  have i13 : (13 : Int) ≤ ((l.length : Nat) : Int) := by omega
  have i16 : (16 : Int) ≤ ((l.length : Nat) : Int) := by omega
  have i19 : (19 : Int) ≤ ((l.length : Nat) : Int) := by omega
  clear q4 q5 q8 q11 q14 q17 hday2 hdd s4 s7 s10 s13 s16
  have HNO := Lib.hid hno; clear hno
  go_enter Tryd.func10, Tryd.ntmps10
  go_wp2
  go_quiet ((first | (go_at_call 28; with_reducible refine Calls.quiet_mk (Q4.out _)) | (go_at_call 28; with_reducible refine Calls.quiet_mk (Q5.out _)) | (go_at_call 28; with_reducible refine Calls.quiet_mk (Q8.out _))))
  have D1 : Drew w (w.drewN nq) := ⟨nq, rfl⟩
  generalize w.drewN nq = w5 at D1 ⊢
  go_wp2
  go_quiet ((first | (go_at_call 28; with_reducible refine Calls.quiet_mk (Q11.out _)) | (go_at_call 28; with_reducible refine Calls.quiet_mk (Q14.out _)) | (go_at_call 28; with_reducible refine Calls.quiet_mk (Q17.out _))))
  have D2 : Drew w (w5.drewN nq) := D1.trans ⟨nq, rfl⟩
  generalize w5.drewN nq = w6 at D2 ⊢
  clear D1 b4 b7 b10 b13 b16
  rcases HNO.out with a | ⟨a, b⟩ | ⟨a, b, c⟩ | ⟨a, b, c, d⟩ | ⟨⟨a, b, c, d⟩, hr⟩
  · clear HNO; go_wp2; go_ret2; exact ⟨rfl, D2⟩
  · clear HNO; go_wp2; go_ret2; exact ⟨rfl, D2⟩
  · clear HNO; go_wp2; go_ret2; exact ⟨rfl, D2⟩
  · clear HNO; go_wp2; go_ret2; exact ⟨rfl, D2⟩
  · have hd2 := HDD.out b c
    obtain ⟨d1, d2⟩ := hd2
    clear HNO
    go_wp2_with fail
    refine (HD.out a b c w6).mono ?_
    rintro e w7 ⟨rfl, rfl⟩
    clear HD HDD
    rcases hr with e | ⟨e, f⟩ | ⟨e, f, g⟩ | ⟨e, f, g, h⟩ | ⟨e, f, g, h, i⟩ | ⟨e, f, g, h, i, j⟩ | ⟨e, f, g, h, i, j, k⟩
    all_goals
      go_wp2
      go_ret2
      exact ⟨rfl, D2⟩
end Go.Proofs.YtaijekagcmkgjaaDoor
