/- OidChild, walked on calls that keep their word. -/
import Derived.Test.YtanainpapcblfaaDoorOidL
namespace Go.Proofs.YtanainpapcblfaaDoor
open Go.ChangeShapes Go.WideShapes Go.ChangeAt Go.RowKit K O6
set_option linter.unusedVariables false

theorem nmd_child (ns : Nat → Int) (n x : Nat) (hn : n ≤ 60) (hx : x ≤ 4294967295) : isArcs (nmd ns n ++ [x]) = true := by
  have h := nmd_arcs ns n hn
  have hl := nmd_len ns n
  have hall := isArcs_le h
  unfold isArcs
  rw [List.length_append, hl]
  have h1 : (nmd ns n ++ [x]).all (fun a => decide (a ≤ 4294967295)) = true := by
    rw [List.all_eq_true]
    intro a ha
    rw [decide_eq_true_eq]
    rcases List.mem_append.1 ha with ha | ha
    · exact hall a ha
    · simp at ha; omega
  have hll : n + 2 + [x].length = n + 3 := rfl
  rw [h1, hll, decide_eq_true (by omega), decide_eq_true (by omega)]
  rfl
theorem put_child (l : List Nat) (hl : l ≠ []) (x : Nat) : put (l ++ [x]) = put l ++ (46 :: nm x) := put_app l x [] hl
/-- What the law compares, of two children. -/
theorem child_ways (A : List Nat) (X Y : Nat) (hx : isArcs (A ++ [X]) = true) (hy : isArcs (A ++ [Y]) = true) :
    (O6.lt (A ++ [X]) (A ++ [Y]) = true ∧ X < Y ∧ (put (A ++ [X]) == put (A ++ [Y])) = false) ∨
    (O6.lt (A ++ [X]) (A ++ [Y]) = false ∧ Y < X ∧ (put (A ++ [X]) == put (A ++ [Y])) = false) ∨
    (O6.lt (A ++ [X]) (A ++ [Y]) = false ∧ X = Y ∧ (put (A ++ [X]) == put (A ++ [Y])) = true) := by
  rw [lt_child]
  have hne : X ≠ Y → (put (A ++ [X]) == put (A ++ [Y])) = false := by
    intro h
    rw [beq_eq_false_iff_ne]
    intro he
    have := put_inj hx hy he
    have := List.append_inj_right this rfl
    simp at this
    exact h this
  by_cases h1 : X < Y
  · exact .inl ⟨decide_eq_true h1, h1, hne (by omega)⟩
  · by_cases h2 : X = Y
    · exact .inr (.inr ⟨decide_eq_false h1, h2, by rw [h2]; simp⟩)
    · exact .inr (.inl ⟨decide_eq_false h1, by omega, hne h2⟩)
theorem child_of {A : List Nat} (ha : isArcs A = true) {X : Nat} (hx : isArcs (A ++ [X]) = true) (hX : X ≤ 4294967295) : chS (put A) X = put (A ++ [X]) ∧ chE (put A) X = 0 := by
  have hin : inR (X : Int) = true := by unfold inR; rw [decide_eq_true (by omega), decide_eq_true (by omega)]; rfl
  obtain ⟨h1, h2⟩ := ch_some (arcs_put ha) hin
  rw [Int.toNat_natCast, hx] at h1 h2
  exact ⟨h2, h1⟩
theorem child_far {A : List Nat} (ha : isArcs A = true) : chS (put A) 4294967296 = [] ∧ chE (put A) 4294967296 = 1 := by
  obtain ⟨h1, h2⟩ := ch_far (arcs_put ha) (show inR 4294967296 = false by decide)
  exact ⟨h2, h1⟩
theorem within_child (A : List Nat) (X : Nat) : O6.within A (A ++ [X]) = true ∧ O6.within (A ++ [X]) A = false := by
  refine ⟨(O6.within_iff _ _).2 ⟨[X], rfl⟩, ?_⟩
  cases h : O6.within (A ++ [X]) A
  · rfl
  · obtain ⟨t, ht⟩ := (O6.within_iff _ _).1 h
    have := congrArg List.length ht
    simp at this
theorem rest_child {A : List Nat} (ha : isArcs A = true) {X : Nat} (hx : isArcs (A ++ [X]) = true) : rsS (put A) (put (A ++ [X])) = nm X ∧ rsE (put A) (put (A ++ [X])) = 0 ∧ rsS (put (A ++ [X])) (put A) = [] ∧ rsE (put (A ++ [X])) (put A) = 60 := by
  unfold rsS rsE
  rw [wi_put ha hx, wi_put hx ha, (within_child A X).1, (within_child A X).2, (arL_put ha).1, (arL_put hx).1, List.drop_left]
  exact ⟨rfl, rfl, rfl, rfl⟩
set_option maxRecDepth 100000 in
set_option maxHeartbeats 4000000 in
theorem oidChild_walk (I : World → Prop) (K : OidOk I) (ao : Option Addr) (len cap : Nat) (ns : Nat → Int) (hb : ∀ i, (Lit.int .i64 (ns i)).wf = true) (hl : len ≤ 140737488351232) (x y : Int) (x0 : -9223372036854775808 ≤ x) (x1 : x ≤ 9223372036854775807) (y0 : -9223372036854775808 ≤ y) (y1 : y ≤ 9223372036854775807) (w : World) (ha : RdZ w ao len ns) (hw : I w) :
    Calls Tryd.prog 7 #[.slice ao len cap, .int .i64 x, .int .i64 y] w fun e w' => e = .returned (.bool true) ∧ Below w.heap.size w w' := by
  have HW := Lib.hid (K.works w hw)
  have HK := Lib.hid K.keep
  have hia := nmd_arcs ns (min len 60) (by omega)
  have HN := Lib.hid (fun w1 (h : RdZ w1 ao len ns) => named_walk ao len cap ns hb hl w1 h)
  unfold NdPost at HN
  have HA := Lib.hid ha
  have HBx := Lib.hid (fun w1 => below_walk x 4294967296 x0 x1 (by omega) (by omega) w1)
  have HBy := Lib.hid (fun w1 => below_walk y 4294967296 y0 y1 (by omega) (by omega) w1)
  obtain ⟨kx0, kx1⟩ := belowN_bounds x 4294967296 (by omega)
  obtain ⟨ky0, ky1⟩ := belowN_bounds y 4294967296 (by omega)
  obtain ⟨X, hX⟩ := Int.eq_ofNat_of_zero_le kx0
  obtain ⟨Y, hY⟩ := Int.eq_ofNat_of_zero_le ky0
  rw [hX] at HBx
  rw [hY] at HBy
  have hX2 : X ≤ 4294967295 := by omega
  have hY2 : Y ≤ 4294967295 := by omega
  have hcx := nmd_child ns (min len 60) X (by omega) hX2
  have hcy := nmd_child ns (min len 60) Y (by omega) hY2
  generalize nmd ns (min len 60) = A at *
  have hAne := isArcs_ne hia
  have hpx := put_child A hAne X
  have hlx := nm_len X (by omega)
  have hAl := isArcs_len hia
  have hpl := putL_len hia
  have hplx := putL_len hcx
  have hply := putL_len hcy
  have HT := Lib.hid (fun a c w1 BB (ho : OwnI w1 BB 3 (.slice a A.length c) A) (h : I w1) => K.textOf hia w1 ho h)
  have hCx := fun w1 (h : I w1) => K.child (put A) X w1 (by omega) (by omega) (by omega) h
  have hCy := fun w1 (h : I w1) => K.child (put A) Y w1 (by omega) (by omega) (by omega) h
  have hCf := fun w1 (h : I w1) => K.child (put A) 4294967296 w1 (by omega) (by omega) (by omega) h
  have hR := fun w1 (h : I w1) => K.rest (put A) (put (A ++ [X])) w1 (by omega) (by omega) h
  have hRn := fun w1 (h : I w1) => K.rest (put (A ++ [X])) (put A) w1 (by omega) (by omega) h
  have hAr := fun w1 (h : I w1) => K.arcs (put (A ++ [X])) w1 (by omega) h
  have hW1 := fun w1 (h : I w1) => K.withinOf hia hcx w1 h
  have hW2 := fun w1 (h : I w1) => K.withinOf hcx hia w1 h
  have hL := fun w1 (h : I w1) => K.lessOf hcx hcy w1 h
  unfold ArPost at hAr
  rw [(child_of hia hcx hX2).1, (child_of hia hcx hX2).2] at hCx
  rw [(child_of hia hcy hY2).1, (child_of hia hcy hY2).2] at hCy
  rw [(child_far hia).1, (child_far hia).2] at hCf
  obtain ⟨r1, r2, r3, r4⟩ := rest_child hia hcx
  rw [r1, r2] at hR
  rw [r3, r4] at hRn
  rw [(arL_put hcx).1, (arL_put hcx).2.1] at hAr
  rw [(within_child A X).1] at hW1
  rw [(within_child A X).2] at hW2
  have hwy := child_ways A X Y hcx hcy
  have HLAST := Lib.hid (show (A ++ [X]).getD A.length 0 = X by simp [List.getD])
  have hlen1 : (A ++ [X]).length = A.length + 1 := by simp
  generalize hAX : A ++ [X] = AX at *
  generalize O6.lt AX (A ++ [Y]) = lXY at *
  generalize put (A ++ [Y]) = PY at *
  generalize put AX = PX at *
  generalize put A = PA at *
  generalize nm X = NX at *
  have HCx := Lib.hid hCx; have HCy := Lib.hid hCy; have HCf := Lib.hid hCf; have HR := Lib.hid hR; have HRn := Lib.hid hRn; have HAr := Lib.hid hAr
  have HW1 := Lib.hid hW1; have HW2 := Lib.hid hW2; have HL := Lib.hid hL
  have HPX := Lib.hid hpx
  have hPA : PA.length ≤ 2000 := hpl
  clear K hCx hCy hCf hR hRn hAr hW1 hW2 hL hpx hia hcx hcy hb kx0 kx1 ky0 ky1 hX hY hAne r1 r2 r3 r4 hAX hplx hply hpl
  go_enter Tryd.func7, Tryd.ntmps7
  go_wp2_with fail
  refine HW.out.mono ?_
  rintro e w1 ⟨rfl, b1⟩
  go_wp2_with fail
  refine (HN.out w1 (HA.out.below b1)).mono ?_
  rintro e w2 ⟨va, rfl, oa, d⟩
  have b2 := b1.trans (d.mono b1.size)
  obtain ⟨aq, cq, rfl, _⟩ := oa.form
  clear d b1
  go_wp2_with fail
  refine (HT.out _ _ w2 _ oa (HK.out _ _ hw b2)).mono ?_
  rintro e w3 ⟨rfl, d⟩
  have b3 := b2.trans (d.mono b2.size)
  clear d b2 oa
  go_wp2_with fail
  refine (HBx.out w3).mono ?_
  rintro e w4 ⟨rfl, rfl⟩
  go_wp2_with fail
  refine (HBy.out w3).mono ?_
  rintro e w4 ⟨rfl, rfl⟩
  go_wp2_with fail
  refine (HCx.out w3 (HK.out _ _ hw b3)).mono ?_
  rintro e w4 ⟨rfl, d⟩
  have b4 := b3.trans (d.mono b3.size)
  clear d b3
  go_wp2_with fail
  refine (HCy.out w4 (HK.out _ _ hw b4)).mono ?_
  rintro e w5 ⟨rfl, d⟩
  have b5 := b4.trans (d.mono b4.size)
  clear d b4
  go_wp2_with fail
  refine (HR.out w5 (HK.out _ _ hw b5)).mono ?_
  rintro e w6 ⟨rfl, d⟩
  have b6 := b5.trans (d.mono b5.size)
  clear d b5
  go_wp2_with fail
  refine (HAr.out w6 (HK.out _ _ hw b6)).mono ?_
  rintro e w7 ⟨vn, rfl, on, d⟩
  have b7 := b6.trans (d.mono b6.size)
  clear d b6
  obtain ⟨nq, mq, rfl, hcn⟩ := on.form
  rw [hlen1] at hcn ⊢
  rcases hcn with h0 | ⟨gn, rfl, _, hgn, hcells⟩
  · omega
  · have hc1 := (hcells A.length (by omega)).1
    rw [HLAST.out] at hc1
    clear hcells on
    go_wp2_with fail
    refine (HCf.out w7 (HK.out _ _ hw b7)).mono ?_
    rintro e w8 ⟨rfl, d⟩
    have b8 := b7.trans (d.mono b7.size)
    have hc2 := (d.cell (p := ⟨gn, A.length, none⟩) hgn).trans hc1
    have hgn2 := Nat.lt_of_lt_of_le hgn d.size
    clear d b7 hc1 hgn
    go_wp2_with fail
    refine (HRn.out w8 (HK.out _ _ hw b8)).mono ?_
    rintro e w9 ⟨rfl, d⟩
    have b9 := b8.trans (d.mono b8.size)
    have hc1 := (d.cell (p := ⟨gn, A.length, none⟩) hgn2).trans hc2
    have hgn := Nat.lt_of_lt_of_le hgn2 d.size
    clear d b8 hc2 hgn2
    go_wp2_with fail
    refine (HW1.out w9 (HK.out _ _ hw b9)).mono ?_
    rintro e w10 ⟨rfl, d⟩
    have b10 := b9.trans (d.mono b9.size)
    have hc2 := (d.cell (p := ⟨gn, A.length, none⟩) hgn).trans hc1
    have hgn2 := Nat.lt_of_lt_of_le hgn d.size
    clear d b9 hc1 hgn
    go_wp2_with fail
    refine (HW2.out w10 (HK.out _ _ hw b10)).mono ?_
    rintro e w11 ⟨rfl, d⟩
    have b11 := b10.trans (d.mono b10.size)
    have hc1 := (d.cell (p := ⟨gn, A.length, none⟩) hgn2).trans hc2
    have hgn := Nat.lt_of_lt_of_le hgn2 d.size
    clear d b10 hc2 hgn2
    go_wp2_with fail
    refine (HL.out w11 (HK.out _ _ hw b11)).mono ?_
    rintro e w12 ⟨rfl, d⟩
    have b12 := b11.trans (d.mono b11.size)
    have hc2 := (d.cell (p := ⟨gn, A.length, none⟩) hgn).trans hc1
    clear d b11 hc1 hgn HW HK HN HA HBx HBy HT HCx HCy HCf HR HRn HAr HW1 HW2 HL HLAST
    have hdot : bs PA ++ ({ data := #[46] } : ByteArray) = bs (PA ++ [46]) := bs_append PA [46]
    have hs1 : (PA ++ 46 :: NX == PX) = true := by rw [HPX.out]; simp
    have hs2 : (PA ++ [46] ++ NX == PX) = true := by rw [HPX.out]; simp
    have hxx : (((X : Nat) : Int) == ((X : Nat) : Int)) = true := by simp
    rcases hwy with ⟨rfl, h1, h2⟩ | ⟨rfl, h1, h2⟩ | ⟨rfl, h1, h2⟩
    · have h1' : ((X : Nat) : Int) < ((Y : Nat) : Int) := by omega
      have h1e : (((X : Nat) : Int) == ((Y : Nat) : Int)) = false := by rw [beq_eq_false_iff_ne]; omega
      clear h1
      go_wp2
      go_ret
      exact ⟨rfl, b12⟩
    · have h1' : ((Y : Nat) : Int) ≤ ((X : Nat) : Int) := by omega
      have hnd : (X < Y) = False := eq_false (by omega)
      have h1e : (((X : Nat) : Int) == ((Y : Nat) : Int)) = false := by rw [beq_eq_false_iff_ne]; omega
      clear h1
      go_wp2
      go_ret
      exact ⟨rfl, b12⟩
    · subst h1
      go_wp2
      go_ret
      exact ⟨rfl, b12⟩
end Go.Proofs.YtanainpapcblfaaDoor
