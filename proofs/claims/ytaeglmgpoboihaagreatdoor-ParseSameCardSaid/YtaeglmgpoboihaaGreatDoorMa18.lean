/- Texts on the program and on the document, joined: PbhD. -/
import Derived.Test.YtaeglmgpoboihaaGreatDoorMa17
import Derived.Deep.LoopGhost
import Derived.RegionTactic
/- ParseBehind, on calls that keep their word. gen_pbhd.py writes it. -/
namespace Go.Proofs.YtaeglmgpoboihaaGreatDoor
open Go.ChangeShapes Go.WideShapes Go.ChangeAt Go.RowKit K L15
set_option linter.unusedVariables false
set_option linter.unusedSimpArgs false

/-- The program's Parse makes the lists of its book itself. -/
structure POkO (I : World → Prop) : Prop extends POk I where
  parseO : ∀ (s : List UInt8) (w : World), s.length ≤ 4096 → I w → Calls Tryz.prog 6 #[.string (bs s)] w fun e w' => Below w.heap.size w w' ∧ ∃ p : Bv, e = .returned (.tuple #[p.v, .int .i64 (paN s : Nat), .int .i64 (paE s : Nat)]) ∧ BkO w' w.heap.size p ∧ p.b = paB s
def HCnt15 (I : World → Prop) : Prop := ∀ (s : List UInt8) (w : World), s.length ≤ 1000000 → I w → Calls Tryz.prog 7 #[.string (bs s), .string { data := #[10] }] w fun e w' => e = .returned (.int .i64 (L14.nls s : Nat)) ∧ Below w.heap.size w w'
theorem nr_mono {L U L' U' : Nat} {v : Value} (h : Nr L U v) (k : L' ≤ L) (l : U ≤ U') : Nr L' U' v := fun g e => by have := h g e; omega
theorem nrb_mono {L U L' U' : Nat} {p : Bv} (h : NrB L U p) (k : L' ≤ L) (l : U ≤ U') : NrB L' U' p := ⟨nr_mono h.1 k l, nr_mono h.2.1 k l, nr_mono h.2.2 k l⟩
theorem nr_far {L U B : Nat} {v : Value} (h : Nr B L v) : Fr L U v := fun g e => .inl (h g e).2
theorem alloc_below (w : World) (o : Obj) : Below w.heap.size w (w.alloc o) := (Below.refl _ _).alloc (Nat.le_refl _) _
/-- How far the copies have come. -/
def PbR (w : World) (L U b8 b11 b15 : Nat) (p2 p3 : Bv) (f : Nat → Bk) (n g : Nat) (c : Value) (x : World) : Prop := ∃ (i : Nat) (p : Bv), i + g = n ∧ c = .int .i64 (i : Nat) ∧ Pbh w L U b8 b11 b15 p2 p3 p x ∧ p.b = f i
/-- Lines that a file can have. -/
def LnB (M : Nat) (b : Bk) : Prop := (∀ x ∈ b.tb, 0 ≤ x.l ∧ x.l ≤ (M : Int)) ∧ (∀ x ∈ b.ru, 0 ≤ x.l ∧ x.l ≤ (M : Int)) ∧ (∀ x ∈ b.wt, 0 ≤ x.l ∧ x.l ≤ (M : Int))
theorem ln_snoc {α : Type} {f : α → Int} {M : Nat} {l : List α} {y : α} (h : ∀ x ∈ l, 0 ≤ f x ∧ f x ≤ (M : Int)) {n : Nat} (hy : f y = (n : Int)) (hn : n ≤ M) : ∀ x ∈ l ++ [y], 0 ≤ f x ∧ f x ≤ (M : Int) := fun x hx => by
  rcases List.mem_append.1 hx with hx | hx
  · exact h x hx
  · rw [List.mem_singleton.1 hx, hy]; omega
theorem books_ln (T : List L14.Tk) (l M : Nat) (hT : ∀ x ∈ T, x.l ≤ M) : ∀ (f : Nat) (b : Bk) (s : Pi), LnB M b → LnB M (books T l f b s).1
  | 0, b, s, h => h
  | f + 1, b, s, h => by
    have hln : more T s = true → lineAt T s ≤ M := fun hm => by
      unfold more at hm
      rw [Bool.and_eq_true, decide_eq_true_eq] at hm
      unfold lineAt
      rw [List.getD_eq_getElem?_getD, List.getElem?_eq_getElem hm.2]
      exact hT _ (List.getElem_mem hm.2)
    rw [books]
    split
    · next hm =>
      have hl := hln hm
      split
      · exact books_ln T l M hT f _ _ ⟨ln_snoc (f := fun x : Tb => x.l) h.1 (n := lineAt T s) rfl hl, h.2.1, h.2.2⟩
      · split
        · exact books_ln T l M hT f _ _ ⟨h.1, ln_snoc (f := fun x : Ru => x.l) h.2.1 (n := lineAt T s) rfl hl, h.2.2⟩
        · split
          · exact books_ln T l M hT f _ _ ⟨h.1, h.2.1, ln_snoc (f := fun x : Wt => x.l) h.2.2 (n := lineAt T s) (by rw [watch_b]; exact watchB_l T l _ _) hl⟩
          · exact books_ln T l M hT f _ _ h
    · exact h
theorem split_ln : ∀ (N m ln : Nat) (s : List UInt8) (k : List L14.Tk), s.length ≤ N → L14.split m ln s = .ok k → ∀ x ∈ k, x.l ≤ ln + L14.nls s := by
  intro N
  induction N with
  | zero =>
    intro m ln s k hN h
    rcases L14.split_cases h with ⟨-, rfl⟩ | ⟨m', k', t', n, r, hr, -, hx, hs, rfl⟩
    · intro x hx; simp at hx
    · have := L14.rst_lt hr hx; omega
  | succ N ih =>
    intro m ln s k hN h
    rcases L14.split_cases h with ⟨-, rfl⟩ | ⟨m', k', t', n, r, hr, -, hx, hs, rfl⟩
    · intro x hx; simp at hx
    · have h1 := L14.rst_lt hr hx
      have e1 : L14.nls s = L14.nls (s.take (L14.skp false s)) + L14.nls (L14.rst s) := by
        rw [← L14.nls_app]; unfold L14.rst; rw [List.take_append_drop]
      have e2 : L14.nls (L14.rst s) = L14.nls ((L14.rst s).take n) + L14.nls ((L14.rst s).drop n) := by
        rw [← L14.nls_app, List.take_append_drop]
      have h2 := ih _ _ _ _ (by omega) hs
      intro x hx
      rcases List.mem_cons.1 hx with rfl | hx
      · show L14.lin ln s ≤ _
        unfold L14.lin; omega
      · have := h2 x hx
        unfold L14.lin at this
        omega
theorem nls_l15 (s : List UInt8) : L14.nls s ≤ s.length := List.countP_le_length
theorem paB_ln {s : List UInt8} (h : paE s = 0) : LnB (1 + s.length) (paB s) := by
  obtain ⟨-, h1, h2⟩ := paE_ok h
  have h3 := split_ln _ _ _ _ _ (Nat.le_refl _) h1
  have h4 := nls_l15 s
  have := books_ln (spL s) (lastL (spL s)) (1 + s.length) (fun x hx => by have := h3 x hx; omega) ((spL s).length + 2) noBk ⟨0, none⟩ ⟨fun x hx => by simp [noBk] at hx, fun x hx => by simp [noBk] at hx, fun x hx => by simp [noBk] at hx⟩
  have e : paB s = (books (spL s) (lastL (spL s)) ((spL s).length + 2) noBk ⟨0, none⟩).1 := (congrArg (·.1) h2).symm
  rw [e]; exact this
set_option maxRecDepth 100000 in
set_option maxHeartbeats 1000000 in
theorem parseBehind_walk (I : World → Prop) (F : POkO I) (HC : HCnt15 I) (s t : List UInt8) (hs : s.length ≤ 140737488355327) (ht : t.length ≤ 140737488355327) (w : World) (hw : I w) :
    Calls Tryz.prog 3 #[.string (bs s), .string (bs t)] w fun e w' => e = .returned (.bool true) ∧ Below w.heap.size w w' := by
  have HW := Lib.hid (works15_walk I F.toPOk w hw)
  have HI := Lib.hid (fun wx (b : Below w.heap.size w wx) => F.keepI w wx hw b)
  by_cases hlong : 2000 < s.length ∨ 2000 < t.length
  · rcases Nat.lt_or_ge 2000 s.length with h1 | h1
    · have e1 : (2000 : Int) < ((s.length : Nat) : Int) := by omega
      clear F HC hw hlong h1
      go_enter Tryz.func3, Tryz.ntmps3
      go_wp2_with fail
      refine HW.out.mono ?_
      rintro e w1 ⟨rfl, b1⟩
      go_wp2
      go_ret
      exact ⟨rfl, b1⟩
    · have e1 : ¬ (2000 : Int) < ((s.length : Nat) : Int) := by omega
      have e2 : (2000 : Int) < ((t.length : Nat) : Int) := by omega
      clear F HC hw hlong h1
      go_enter Tryz.func3, Tryz.ntmps3
      go_wp2_with fail
      refine HW.out.mono ?_
      rintro e w1 ⟨rfl, b1⟩
      go_wp2
      go_ret
      exact ⟨rfl, b1⟩
  have HS := Lib.hid (show s.length ≤ 2000 by omega)
  have HT := Lib.hid (show t.length ≤ 2000 by omega)
  have e1 : ¬ (2000 : Int) < ((s.length : Nat) : Int) := by omega
  have e2 : ¬ (2000 : Int) < ((t.length : Nat) : Int) := by omega
  have e3 : (9223372036854775807 < s.length + 1) = False := by rw [eq_iff_iff]; simp; omega
  have e4 : (9223372036854775807 < s.length + 1 + t.length) = False := by rw [eq_iff_iff]; simp; omega
  have hcat : bs s ++ ({ data := #[10] } : ByteArray) = bs (s ++ [10]) := bs_append s [10]
  have hcat2 : bs (s ++ [10]) ++ bs t = bs (s ++ 10 :: t) := by rw [bs_append, List.append_assoc]; rfl
  have HX := Lib.hid F
  have HN := Lib.hid HC
  have HE := Lib.hid (fun h1 h2 => paE_app HS.out HT.out h1 h2)
  have HLN := Lib.hid (fun h2 : paE t = 0 => paB_ln h2)
  have HNL := Lib.hid (nls_l15 s)
  obtain ⟨n1, hn1⟩ : ∃ n, paN s = n := ⟨_, rfl⟩
  obtain ⟨n2, hn2⟩ : ∃ n, paN t = n := ⟨_, rfl⟩
  obtain ⟨n3, hn3⟩ : ∃ n, paN (s ++ 10 :: t) = n := ⟨_, rfl⟩
  have HP1 := Lib.hid (fun wx (b : Below w.heap.size w wx) => F.parseO s wx (by omega) (F.keepI w wx hw b))
  have HP2 := Lib.hid (fun wx (b : Below w.heap.size w wx) => F.parseO t wx (by omega) (F.keepI w wx hw b))
  have HP3 := Lib.hid (fun wx (b : Below w.heap.size w wx) => F.parseO (s ++ 10 :: t) wx (by rw [List.length_append, List.length_cons]; omega) (F.keepI w wx hw b))
  have HB1 := Lib.hid (paB_s s)
  have HB2 := Lib.hid (paB_s t)
  have HB3 := Lib.hid (paB_s (s ++ 10 :: t))
  generalize paE s = c1 at *
  generalize paE t = c2 at *
  generalize paE (s ++ 10 :: t) = c3 at *
  generalize paB s = k1 at *
  generalize paB t = k2 at *
  generalize paB (s ++ 10 :: t) = k3 at *
  rw [hn1] at HP1; rw [hn2] at HP2; rw [hn3] at HP3
  clear F HC hw hlong hs ht hn1 hn2 hn3
  go_enter Tryz.func3, Tryz.ntmps3
  go_wp2_with fail
  refine HW.out.mono ?_
  rintro e w1 ⟨rfl, b1⟩
  have HBA := Lib.hid b1
  clear b1 HW
  go_wp2_with fail
  refine (HP1.out _ HBA.out).mono ?_
  rintro e w2 ⟨bx, ⟨vt, rt1, vr, rr1, vw, k1⟩, rfl, ho, hb⟩
  simp only at hb
  subst hb
  obtain ⟨ta1, tc1, ra1, rc1, wa1, wc1, f1, f2, f3, -, -, -⟩ := ho.form
  simp only at f1 f2 f3
  subst f1 f2 f3
  have HO1 := Lib.hid ho
  have HBB := Lib.hid (HBA.out.trans (bx.mono HBA.out.size))
  have HZ1 := Lib.hid bx
  clear ho bx
  simp only [Bv.v]
  have HD1 := Lib.hid (HBB.out.trans ((alloc_below w2 (.cells #[.slice ta1 k1.tb.length tc1, .slice ra1 k1.ru.length rc1, .slice wa1 k1.wt.length wc1] 27)).mono HBB.out.size))
  have HR1 := Lib.hid (rowNew w2 (.cells #[.slice ta1 k1.tb.length tc1, .slice ra1 k1.ru.length rc1, .slice wa1 k1.wt.length wc1] 27))
  have HS1 := Lib.hid (World.size_alloc w2 (.cells #[.slice ta1 k1.tb.length tc1, .slice ra1 k1.ru.length rc1, .slice wa1 k1.wt.length wc1] 27))
  have HN1 := Lib.hid HO1.out.nr
  have HQ1 := Lib.hid (HO1.out.below (alloc_below w2 (.cells #[.slice ta1 k1.tb.length tc1, .slice ra1 k1.ru.length rc1, .slice wa1 k1.wt.length wc1] 27)))
  clear HO1
  go_wp2_with fail
  refine (HP2.out _ HD1.out).mono ?_
  rintro e w3 ⟨bx, ⟨vt, rt2, vr, rr2, vw, k2⟩, rfl, ho, hb⟩
  simp only at hb
  subst hb
  obtain ⟨ta2, tc2, ra2, rc2, wa2, wc2, f1, f2, f3, -, -, -⟩ := ho.form
  simp only at f1 f2 f3
  subst f1 f2 f3
  have HO2 := Lib.hid ho
  have HBC := Lib.hid (HD1.out.trans (bx.mono HD1.out.size))
  have HZ2 := Lib.hid bx
  clear ho bx
  simp only [Bv.v]
  have HR1b := Lib.hid ((HZ2.out.block _ (lt_of_block HR1.out)).trans HR1.out)
  have HQ1b := Lib.hid (HQ1.out.below HZ2.out)
  have HD2 := Lib.hid (HBC.out.trans ((alloc_below w3 (.cells #[.slice ta2 k2.tb.length tc2, .slice ra2 k2.ru.length rc2, .slice wa2 k2.wt.length wc2] 27)).mono HBC.out.size))
  have HR1c := Lib.hid (((alloc_below w3 (.cells #[.slice ta2 k2.tb.length tc2, .slice ra2 k2.ru.length rc2, .slice wa2 k2.wt.length wc2] 27)).block _ (lt_of_block HR1b.out)).trans HR1b.out)
  have HR2 := Lib.hid (rowNew w3 (.cells #[.slice ta2 k2.tb.length tc2, .slice ra2 k2.ru.length rc2, .slice wa2 k2.wt.length wc2] 27))
  have HS2 := Lib.hid (World.size_alloc w3 (.cells #[.slice ta2 k2.tb.length tc2, .slice ra2 k2.ru.length rc2, .slice wa2 k2.wt.length wc2] 27))
  have HQ1c := Lib.hid (HQ1b.out.below (alloc_below w3 (.cells #[.slice ta2 k2.tb.length tc2, .slice ra2 k2.ru.length rc2, .slice wa2 k2.wt.length wc2] 27)))
  have HQ2 := Lib.hid (HO2.out.below (alloc_below w3 (.cells #[.slice ta2 k2.tb.length tc2, .slice ra2 k2.ru.length rc2, .slice wa2 k2.wt.length wc2] 27)))
  have HN2 := Lib.hid HO2.out.nr
  have HY2 := Lib.hid HZ2.out.size
  clear HO2 HR1b HQ1b HR1 HZ2
  go_wp2_with fail
  try rw [hcat2]
  refine (HP3.out _ HD2.out).mono ?_
  rintro e w4 ⟨bx, ⟨vt, rt3, vr, rr3, vw, k3⟩, rfl, ho, hb⟩
  simp only at hb
  subst hb
  obtain ⟨ta3, tc3, ra3, rc3, wa3, wc3, f1, f2, f3, -, -, -⟩ := ho.form
  simp only at f1 f2 f3
  subst f1 f2 f3
  have HO3 := Lib.hid ho
  have HBD := Lib.hid (HD2.out.trans (bx.mono HD2.out.size))
  have HZ3 := Lib.hid bx
  clear ho bx
  simp only [Bv.v]
  have HD3 := Lib.hid (HBD.out.trans ((alloc_below w4 (.cells #[.slice ta3 k3.tb.length tc3, .slice ra3 k3.ru.length rc3, .slice wa3 k3.wt.length wc3] 27)).mono HBD.out.size))
  have bz := alloc_below w4 (.cells #[.slice ta3 k3.tb.length tc3, .slice ra3 k3.ru.length rc3, .slice wa3 k3.wt.length wc3] 27)
  have HE4 := Lib.hid (HZ3.out.trans (bz.mono HZ3.out.size))
  have HR3 := Lib.hid (rowNew w4 (.cells #[.slice ta3 k3.tb.length tc3, .slice ra3 k3.ru.length rc3, .slice wa3 k3.wt.length wc3] 27))
  have HS3 := Lib.hid (World.size_alloc w4 (.cells #[.slice ta3 k3.tb.length tc3, .slice ra3 k3.ru.length rc3, .slice wa3 k3.wt.length wc3] 27))
  have HQ3 := Lib.hid (HO3.out.below bz)
  have HN3 := Lib.hid HO3.out.nr
  have HY3 := Lib.hid HZ3.out.size
  clear bz HO3 HZ3
  rcases Nat.lt_or_ge 0 c1 with hc1 | hc1
  · have q1 : (((c1 : Nat) : Int) != 0) = true := by rw [bne_iff_ne]; omega
    go_wp2
    go_ret
    exact ⟨rfl, HD3.out⟩
  have hc1 := Nat.le_zero.1 hc1
  have q1 : (((c1 : Nat) : Int) != 0) = false := by rw [hc1]; rfl
  rcases Nat.lt_or_ge 0 c2 with hc2 | hc2
  · have q2 : (((c2 : Nat) : Int) != 0) = true := by rw [bne_iff_ne]; omega
    go_wp2
    go_ret
    exact ⟨rfl, HD3.out⟩
  have hc2 := Nat.le_zero.1 hc2
  have q2 : (((c2 : Nat) : Int) != 0) = false := by rw [hc2]; rfl
  obtain ⟨hc3, hk3⟩ := HE.out hc1 hc2
  have HLB := Lib.hid (HLN.out hc2)
  have HC3 := Lib.hid hc3
  have HK3 := Lib.hid hk3
  have HSU := Lib.hid (show k1.tb.length + k2.tb.length ≤ 1000000 ∧ k1.ru.length + k2.ru.length ≤ 1000000 ∧ k1.wt.length + k2.wt.length ≤ 1000000 by
    have := HB3.out
    rw [hk3] at this
    obtain ⟨g1, g2, g3, -, -⟩ := this
    simp only [apB, shB, List.length_append, List.length_map] at g1 g2 g3
    exact ⟨g1, g2, g3⟩)
  clear HE HLN hc1 hc2 hc3 hk3
  go_wp2_with fail
  refine (HN.out s _ (by have := HS.out; omega) (HI.out _ HD3.out)).mono ?_
  rintro e w5 ⟨rfl, b5⟩
  obtain ⟨m, hm⟩ : ∃ m, L14.nls s = m := ⟨_, rfl⟩
  rw [hm] at HNL HK3 ⊢
  have hml : m ≤ 2000 := by have := HS.out; have := HNL.out; omega
  have z1 : IntKind.i64.wrap (1 + ((m : Nat) : Int)) = 1 + ((m : Nat) : Int) := IntWalk.i64_in _ (by omega)
  have HML := Lib.hid hml
  have HE5 := Lib.hid (HE4.out.trans (b5.mono HE4.out.size))
  have HD5 := Lib.hid (HD3.out.trans (b5.mono HD3.out.size))
  have HY5 := Lib.hid b5.size
  have r1 := (HE5.out.block _ (lt_of_block HR1c.out)).trans HR1c.out
  obtain ⟨x0, x1, x2⟩ : _ ∧ _ ∧ _ := ⟨cellRow r1 0, cellRow r1 1, cellRow r1 2⟩
  have hP : Pbh w (w2.alloc (.cells #[.slice ta1 k1.tb.length tc1, .slice ra1 k1.ru.length rc1, .slice wa1 k1.wt.length wc1] 27)).heap.size w5.heap.size w3.heap.size w4.heap.size w5.heap.size (Bv.mk (.slice ta2 k2.tb.length tc2) rt2 (.slice ra2 k2.ru.length rc2) rr2 (.slice wa2 k2.wt.length wc2) k2) (Bv.mk (.slice ta3 k3.tb.length tc3) rt3 (.slice ra3 k3.ru.length rc3) rr3 (.slice wa3 k3.wt.length wc3) k3) (Bv.mk (.slice ta1 k1.tb.length tc1) rt1 (.slice ra1 k1.ru.length rc1) rr1 (.slice wa1 k1.wt.length wc1) k1) (w5.alloc (.cells #[.slice ta1 k1.tb.length tc1, .slice ra1 k1.ru.length rc1, .slice wa1 k1.wt.length wc1] 27)) := by
    have ba := alloc_below w5 (.cells #[.slice ta1 k1.tb.length tc1, .slice ra1 k1.ru.length rc1, .slice wa1 k1.wt.length wc1] 27)
    have be := HE5.out.trans (ba.mono HE5.out.size)
    have bf := b5.trans (ba.mono b5.size)
    have s1 := HS1.out
    have s2 := HS2.out
    have s3 := HS3.out
    have y2 := HY2.out
    have y3 := HY3.out
    have y5 := HY5.out
    refine ⟨HD5.out.trans (ba.mono HD5.out.size), ba.size, (be.block _ (lt_of_block HR2.out)).trans HR2.out, (bf.block _ (lt_of_block HR3.out)).trans HR3.out, rowNew w5 _, HQ2.out.below be, (HQ3.out.below bf).mono (by omega), (HQ1c.out.below be).mono HBA.out.size, ?_⟩
    have n1 := HN1.out
    exact ⟨nr_far (nr_mono n1.1 (Nat.le_refl _) (by omega)), nr_far (nr_mono n1.2.1 (Nat.le_refl _) (by omega)), nr_far (nr_mono n1.2.2 (Nat.le_refl _) (by omega))⟩
  have HF := Lib.hid (show PbF w (w2.alloc (.cells #[.slice ta1 k1.tb.length tc1, .slice ra1 k1.ru.length rc1, .slice wa1 k1.wt.length wc1] 27)).heap.size w5.heap.size w3.heap.size w4.heap.size w5.heap.size (Bv.mk (.slice ta2 k2.tb.length tc2) rt2 (.slice ra2 k2.ru.length rc2) rr2 (.slice wa2 k2.wt.length wc2) k2) (Bv.mk (.slice ta3 k3.tb.length tc3) rt3 (.slice ra3 k3.ru.length rc3) rr3 (.slice wa3 k3.wt.length wc3) k3) by
    have s1 := HS1.out
    have s2 := HS2.out
    have s3 := HS3.out
    have y2 := HY2.out
    have y3 := HY3.out
    have y5 := HY5.out
    exact ⟨nrb_mono HN2.out (Nat.le_refl _) (by omega), nrb_mono HN3.out (by omega) (by omega), by omega, by omega, HD5.out.size⟩)
  have y0 := cellRow hP.c8 0
  have HP := Lib.hid hP
  clear hP b5 r1 HE4 HE5 HD5 HR1c HR2 HR3 HQ2 HQ3 HQ1c HN1 HN2 HN3 HS1 HS2 HS3 HY2 HY3 HY5 hml hm
  go_wp2_with fail
  have H01 := Lib.hid (show PbR w (w2.alloc (.cells #[.slice ta1 k1.tb.length tc1, .slice ra1 k1.ru.length rc1, .slice wa1 k1.wt.length wc1] 27)).heap.size w5.heap.size w3.heap.size w4.heap.size w5.heap.size (Bv.mk (.slice ta2 k2.tb.length tc2) rt2 (.slice ra2 k2.ru.length rc2) rr2 (.slice wa2 k2.wt.length wc2) k2) (Bv.mk (.slice ta3 k3.tb.length tc3) rt3 (.slice ra3 k3.ru.length rc3) rr3 (.slice wa3 k3.wt.length wc3) k3) (fun i => (⟨k1.tb ++ (k2.tb.take i).map (shT (m + 1)), k1.ru, k1.wt⟩ : Bk)) k2.tb.length (k2.tb.length) (.int .i64 0) (w5.alloc (.cells #[.slice ta1 k1.tb.length tc1, .slice ra1 k1.ru.length rc1, .slice wa1 k1.wt.length wc1] 27)) from ⟨0, _, by omega, rfl, HP.out, by simp⟩)
  clear HP
  go_loopg [72] k2.tb.length (fun g v72 wr => PbR w (w2.alloc (.cells #[.slice ta1 k1.tb.length tc1, .slice ra1 k1.ru.length rc1, .slice wa1 k1.wt.length wc1] 27)).heap.size w5.heap.size w3.heap.size w4.heap.size w5.heap.size (Bv.mk (.slice ta2 k2.tb.length tc2) rt2 (.slice ra2 k2.ru.length rc2) rr2 (.slice wa2 k2.wt.length wc2) k2) (Bv.mk (.slice ta3 k3.tb.length tc3) rt3 (.slice ra3 k3.ru.length rc3) rr3 (.slice wa3 k3.wt.length wc3) k3) (fun i => (⟨k1.tb ++ (k2.tb.take i).map (shT (m + 1)), k1.ru, k1.wt⟩ : Bk)) k2.tb.length (g) (v72) (wr))
  case atStart => exact H01.out
  case round =>
    obtain ⟨i, p, hig, rfl, hP, hpb⟩ := hrel
    clear H01
    by_cases hi : i < k2.tb.length
    · obtain ⟨G, rfl⟩ : ∃ G, gk = G + 1 := ⟨gk - 1, by omega⟩
      have hi2 : ((i : Nat) : Int) < ((k2.tb.length : Nat) : Int) := by omega
      obtain ⟨pt, prt, pv, prr, pw, pk⟩ := p
      obtain ⟨xa, xc, ya, yc, va, vc, e1, e2, e3, -, -, -⟩ := hP.o.form
      simp only at e1 e2 e3 hpb
      subst e1 e2 e3
      obtain ⟨ta', tc', ra', rc', wa', wc', f1, -, -, r1, -, -⟩ := hP.o2.form
      simp only at f1
      injection f1 with f1 _ f3
      subst f1 f3
      have hTB : TbsR wr rt2 k2.tb := hP.o2.2.1
      obtain ⟨q, o, rfl, c⟩ := rdrw_at r1 (i := i) (by rw [RlR.len hTB]; exact hi)
      obtain ⟨po, pc, e, hk⟩ := rl_at hTB hi
      simp only [e] at c
      obtain ⟨a0, a1, a2, a3⟩ : _ ∧ _ ∧ _ ∧ _ := ⟨c 0 (by omega), c 1 (by omega), c 2 (by omega), c 3 (by omega)⟩
      simp only [List.getElem?_cons_zero, List.getElem?_cons_succ, Nat.add_zero] at a0 a1 a2 a3
      have hy := HLB.out.1 _ (List.getElem_mem hi)
      have htk : k2.tb.take (i + 1) = k2.tb.take i ++ [k2.tb[i]] := by rw [List.take_add_one, List.getElem?_eq_getElem hi]; rfl
      generalize k2.tb[i] = y at *
      have z2 : IntKind.i64.wrap (y.l + (1 + ((m : Nat) : Int))) = y.l + (1 + ((m : Nat) : Int)) := IntWalk.i64_in _ (by have := HT.out; have := HML.out; omega)
      have z4 : IntKind.i64.wrap (((i : Nat) : Int) + 1) = ((i : Nat) : Int) + 1 := IntWalk.i64_in _ (by have := HSU.out.1; omega)
      have hyl : (shT (m + 1) y).l = y.l + (1 + ((m : Nat) : Int)) := by unfold shT; simp only; omega
      have bA := alloc_below wr (.cells #[.string (bs y.n), .int .i64 (y.l + (1 + ((m : Nat) : Int))), .slice po y.ks.length pc, .string (bs y.e)] 34)
      have bB := alloc_below (wr.alloc (.cells #[.string (bs y.n), .int .i64 (y.l + (1 + ((m : Nat) : Int))), .slice po y.ks.length pc, .string (bs y.e)] 34)) (.cells #[.string (bs y.n), .int .i64 (y.l + (1 + ((m : Nat) : Int))), .slice po y.ks.length pc, .string (bs y.e)] 34)
      have h1 := hP.below bA
      have h2 := h1.below bB
      have HRW := Lib.hid (show TbRow ((wr.alloc (.cells #[.string (bs y.n), .int .i64 (y.l + (1 + ((m : Nat) : Int))), .slice po y.ks.length pc, .string (bs y.e)] 34)).alloc (.cells #[.string (bs y.n), .int .i64 (y.l + (1 + ((m : Nat) : Int))), .slice po y.ks.length pc, .string (bs y.e)] 34)) [.string (bs y.n), .int .i64 (y.l + (1 + ((m : Nat) : Int))), .slice po y.ks.length pc, .string (bs y.e)] (shT (m + 1) y) from ⟨po, pc, by rw [hyl]; rfl, (hk.below bA).below bB⟩ )
      have zS1 : World.cell? (wr.alloc (.cells #[.string (bs y.n), .int .i64 (y.l + (1 + ((m : Nat) : Int))), .slice po y.ks.length pc, .string (bs y.e)] 34)) ⟨w5.heap.size, 0, none⟩ = some (.slice xa pk.tb.length xc) := cellRow h1.c15 0
      have HH2 := Lib.hid h2
      have HO2 := Lib.hid h2.o.1
      have HX2 := Lib.hid (rowNew (wr.alloc (.cells #[.string (bs y.n), .int .i64 (y.l + (1 + ((m : Nat) : Int))), .slice po y.ks.length pc, .string (bs y.e)] 34)) (.cells #[.string (bs y.n), .int .i64 (y.l + (1 + ((m : Nat) : Int))), .slice po y.ks.length pc, .string (bs y.e)] 34))
      have hsz := World.size_alloc wr (.cells #[.string (bs y.n), .int .i64 (y.l + (1 + ((m : Nat) : Int))), .slice po y.ks.length pc, .string (bs y.e)] 34)
      rw [hsz] at HX2
      have HL2 := Lib.hid (show prt.length ≤ 1000000 by
        have g1 := RlR.len hP.o.2.1
        simp only at g1
        rw [g1, hpb]
        simp only [List.length_append, List.length_map, List.length_take]
        have := HSU.out.1
        omega)
      have HS2 := Lib.hid h2.bel.size
      have HPB := Lib.hid hpb
      have HTK := Lib.hid htk
      have HIG := Lib.hid hig
      clear htk hig c r1 hy hi hP h1 h2 bA bB hyl hsz hpb hTB e hk
      have AFT := Lib.hid (show ∀ (v3 : Value) (x3 : World), OwnR x3 w.heap.size 34 4 v3 (prt ++ [[.string (bs y.n), .int .i64 (y.l + (1 + ((m : Nat) : Int))), .slice po y.ks.length pc, .string (bs y.e)]]) → ((wr.alloc (.cells #[.string (bs y.n), .int .i64 (y.l + (1 + ((m : Nat) : Int))), .slice po y.ks.length pc, .string (bs y.e)] 34)).alloc (.cells #[.string (bs y.n), .int .i64 (y.l + (1 + ((m : Nat) : Int))), .slice po y.ks.length pc, .string (bs y.e)] 34)).grownBy x3 (Value.ownBlock (.slice xa pk.tb.length xc)) → (∀ g, v3.ownBlock = some g → Value.ownBlock (.slice xa pk.tb.length xc) = some g ∨ g = ((wr.alloc (.cells #[.string (bs y.n), .int .i64 (y.l + (1 + ((m : Nat) : Int))), .slice po y.ks.length pc, .string (bs y.e)] 34)).alloc (.cells #[.string (bs y.n), .int .i64 (y.l + (1 + ((m : Nat) : Int))), .slice po y.ks.length pc, .string (bs y.e)] 34)).heap.size) → ∃ ao3 cap3, v3 = .slice ao3 (prt.length + 1) cap3 ∧ World.cell? x3 ⟨w5.heap.size, 0, none⟩ = some (.slice xa pk.tb.length xc) ∧ x3.frozen? ⟨w5.heap.size, 0, none⟩ = false ∧ PbR w (w2.alloc (.cells #[.slice ta1 k1.tb.length tc1, .slice ra1 k1.ru.length rc1, .slice wa1 k1.wt.length wc1] 27)).heap.size w5.heap.size w3.heap.size w4.heap.size w5.heap.size (Bv.mk (.slice (some ⟨q, o, none⟩) k2.tb.length tc2) rt2 (.slice ra2 k2.ru.length rc2) rr2 (.slice wa2 k2.wt.length wc2) k2) (Bv.mk (.slice ta3 k3.tb.length tc3) rt3 (.slice ra3 k3.ru.length rc3) rr3 (.slice wa3 k3.wt.length wc3) k3) (fun i => (⟨k1.tb ++ (k2.tb.take i).map (shT (m + 1)), k1.ru, k1.wt⟩ : Bk)) k2.tb.length (G) (.int .i64 (((i : Nat) : Int) + 1)) (x3.setCell ⟨w5.heap.size, 0, none⟩ (.slice ao3 (prt.length + 1) cap3)) by
        intro v3 x3 m3 g3 l3
        have d15 := blk_grown HH2.out.c15 g3 HO2.out.1 (by decide)
        have h3 := HH2.out.tbl HF.out HRW.out m3 g3 l3
        obtain ⟨ao3, cap3, hv3, -⟩ := m3.form (by decide)
        rw [List.length_append, List.length_singleton] at hv3
        subst hv3
        refine ⟨ao3, cap3, rfl, cellRow d15 0, freeRow d15 0, i + 1, _, by have := HIG.out; omega, rfl, h3, ?_⟩
        simp only [HPB.out, HTK.out, List.map_append, List.map_cons, List.map_nil, List.append_assoc])
      clear HH2 HRW HPB HTK HIG
      go_wp2_with (refine appRwX rfl rfl Tryz.underlying23 tbinfo rfl (by decide) (by decide) _ rfl HO2.out (wr.heap.size + 1) [.string (bs y.n), .int .i64 (y.l + (1 + ((m : Nat) : Int))), .slice po y.ks.length pc, .string (bs y.e)] rfl HX2.out rfl rfl (by intro u hu; simp at hu; rcases hu with rfl | rfl | rfl | rfl <;> rfl) HL2.out HS2.out ?_; intro v3 x3 m3 g3 l3; obtain ⟨ao3, cap3, rfl, z3, f3, hnx⟩ := AFT.out _ _ m3 g3 l3; have HNX := Lib.hid hnx; clear hnx m3 g3 l3)
      go_roundg G
      case measure => omega
      case rel => exact HNX.out
    · have hi2 : ¬ ((i : Nat) : Int) < ((k2.tb.length : Nat) : Int) := by omega
      have hie : i = k2.tb.length := by omega
      subst hie
      have H02 := Lib.hid (show PbR w (w2.alloc (.cells #[.slice ta1 k1.tb.length tc1, .slice ra1 k1.ru.length rc1, .slice wa1 k1.wt.length wc1] 27)).heap.size w5.heap.size w3.heap.size w4.heap.size w5.heap.size (Bv.mk (.slice ta2 k2.tb.length tc2) rt2 (.slice ra2 k2.ru.length rc2) rr2 (.slice wa2 k2.wt.length wc2) k2) (Bv.mk (.slice ta3 k3.tb.length tc3) rt3 (.slice ra3 k3.ru.length rc3) rr3 (.slice wa3 k3.wt.length wc3) k3) (fun i => (⟨k1.tb ++ k2.tb.map (shT (m + 1)), k1.ru ++ (k2.ru.take i).map (shR (m + 1)), k1.wt⟩ : Bk)) k2.ru.length (k2.ru.length) (.int .i64 0) (wr) from ⟨0, _, by omega, rfl, hP, by rw [hpb]; simp⟩)
      have y1 := cellRow hP.c8 1
      clear hP hpb hig
      go_wp2_with fail
      go_loopg [91] k2.ru.length (fun g v91 wr => PbR w (w2.alloc (.cells #[.slice ta1 k1.tb.length tc1, .slice ra1 k1.ru.length rc1, .slice wa1 k1.wt.length wc1] 27)).heap.size w5.heap.size w3.heap.size w4.heap.size w5.heap.size (Bv.mk (.slice ta2 k2.tb.length tc2) rt2 (.slice ra2 k2.ru.length rc2) rr2 (.slice wa2 k2.wt.length wc2) k2) (Bv.mk (.slice ta3 k3.tb.length tc3) rt3 (.slice ra3 k3.ru.length rc3) rr3 (.slice wa3 k3.wt.length wc3) k3) (fun i => (⟨k1.tb ++ k2.tb.map (shT (m + 1)), k1.ru ++ (k2.ru.take i).map (shR (m + 1)), k1.wt⟩ : Bk)) k2.ru.length (g) (v91) (wr))
      case atStart => exact H02.out
      case round =>
        obtain ⟨i, p, hig, rfl, hP, hpb⟩ := hrel
        clear H02
        by_cases hi : i < k2.ru.length
        · obtain ⟨G, rfl⟩ : ∃ G, gk = G + 1 := ⟨gk - 1, by omega⟩
          have hi2 : ((i : Nat) : Int) < ((k2.ru.length : Nat) : Int) := by omega
          obtain ⟨pt, prt, pv, prr, pw, pk⟩ := p
          obtain ⟨xa, xc, ya, yc, va, vc, e1, e2, e3, -, -, -⟩ := hP.o.form
          simp only at e1 e2 e3 hpb
          subst e1 e2 e3
          obtain ⟨ta', tc', ra', rc', wa', wc', -, f1, -, -, r1, -⟩ := hP.o2.form
          simp only at f1
          injection f1 with f1 _ f3
          subst f1 f3
          have hTB : RusR wr rr2 k2.ru := hP.o2.2.2.2.1
          obtain ⟨q, o, rfl, c⟩ := rdrw_at r1 (i := i) (by rw [RlR.len hTB]; exact hi)
          obtain ⟨po, pc, qo, qc, rs, e, hk1, hk2, hk3⟩ := rl_at hTB hi
          simp only [e] at c
          obtain ⟨a0, a1, a2, a3, a4, a5, a6, a7⟩ : _ ∧ _ ∧ _ ∧ _ ∧ _ ∧ _ ∧ _ ∧ _ := ⟨c 0 (by omega), c 1 (by omega), c 2 (by omega), c 3 (by omega), c 4 (by omega), c 5 (by omega), c 6 (by omega), c 7 (by omega)⟩
          simp only [List.getElem?_cons_zero, List.getElem?_cons_succ, Nat.add_zero] at a0 a1 a2 a3 a4 a5 a6 a7
          have hy := HLB.out.2.1 _ (List.getElem_mem hi)
          have htk : k2.ru.take (i + 1) = k2.ru.take i ++ [k2.ru[i]] := by rw [List.take_add_one, List.getElem?_eq_getElem hi]; rfl
          generalize k2.ru[i] = y at *
          have z2 : IntKind.i64.wrap (y.l + (1 + ((m : Nat) : Int))) = y.l + (1 + ((m : Nat) : Int)) := IntWalk.i64_in _ (by have := HT.out; have := HML.out; omega)
          have z4 : IntKind.i64.wrap (((i : Nat) : Int) + 1) = ((i : Nat) : Int) + 1 := IntWalk.i64_in _ (by have := HSU.out.2.1; omega)
          have hyl : (shR (m + 1) y).l = y.l + (1 + ((m : Nat) : Int)) := by unfold shR; simp only; omega
          have bA := alloc_below wr (.cells #[.string (bs y.n), .int .i64 (y.l + (1 + ((m : Nat) : Int))), .int .i64 y.fr, .string (bs y.oid), .bool y.wi, .slice po y.ts.length pc, .slice qo y.ss.length qc, .bool y.dr] 38)
          have bB := alloc_below (wr.alloc (.cells #[.string (bs y.n), .int .i64 (y.l + (1 + ((m : Nat) : Int))), .int .i64 y.fr, .string (bs y.oid), .bool y.wi, .slice po y.ts.length pc, .slice qo y.ss.length qc, .bool y.dr] 38)) (.cells #[.string (bs y.n), .int .i64 (y.l + (1 + ((m : Nat) : Int))), .int .i64 y.fr, .string (bs y.oid), .bool y.wi, .slice po y.ts.length pc, .slice qo y.ss.length qc, .bool y.dr] 38)
          have h1 := hP.below bA
          have h2 := h1.below bB
          have HRW := Lib.hid (show RuRow ((wr.alloc (.cells #[.string (bs y.n), .int .i64 (y.l + (1 + ((m : Nat) : Int))), .int .i64 y.fr, .string (bs y.oid), .bool y.wi, .slice po y.ts.length pc, .slice qo y.ss.length qc, .bool y.dr] 38)).alloc (.cells #[.string (bs y.n), .int .i64 (y.l + (1 + ((m : Nat) : Int))), .int .i64 y.fr, .string (bs y.oid), .bool y.wi, .slice po y.ts.length pc, .slice qo y.ss.length qc, .bool y.dr] 38)) [.string (bs y.n), .int .i64 (y.l + (1 + ((m : Nat) : Int))), .int .i64 y.fr, .string (bs y.oid), .bool y.wi, .slice po y.ts.length pc, .slice qo y.ss.length qc, .bool y.dr] (shR (m + 1) y) from ⟨po, pc, qo, qc, rs, by rw [hyl]; rfl, (hk1.below bA).below bB, (hk2.below bA).below bB, hk3.keep fun _ _ x => (x.below bA).below bB⟩ )
          have zS1 : World.cell? (wr.alloc (.cells #[.string (bs y.n), .int .i64 (y.l + (1 + ((m : Nat) : Int))), .int .i64 y.fr, .string (bs y.oid), .bool y.wi, .slice po y.ts.length pc, .slice qo y.ss.length qc, .bool y.dr] 38)) ⟨w5.heap.size, 1, none⟩ = some (.slice ya pk.ru.length yc) := cellRow h1.c15 1
          have HH2 := Lib.hid h2
          have HO2 := Lib.hid h2.o.2.2.1
          have HX2 := Lib.hid (rowNew (wr.alloc (.cells #[.string (bs y.n), .int .i64 (y.l + (1 + ((m : Nat) : Int))), .int .i64 y.fr, .string (bs y.oid), .bool y.wi, .slice po y.ts.length pc, .slice qo y.ss.length qc, .bool y.dr] 38)) (.cells #[.string (bs y.n), .int .i64 (y.l + (1 + ((m : Nat) : Int))), .int .i64 y.fr, .string (bs y.oid), .bool y.wi, .slice po y.ts.length pc, .slice qo y.ss.length qc, .bool y.dr] 38))
          have hsz := World.size_alloc wr (.cells #[.string (bs y.n), .int .i64 (y.l + (1 + ((m : Nat) : Int))), .int .i64 y.fr, .string (bs y.oid), .bool y.wi, .slice po y.ts.length pc, .slice qo y.ss.length qc, .bool y.dr] 38)
          rw [hsz] at HX2
          have HL2 := Lib.hid (show prr.length ≤ 1000000 by
            have g1 := RlR.len hP.o.2.2.2.1
            simp only at g1
            rw [g1, hpb]
            simp only [List.length_append, List.length_map, List.length_take]
            have := HSU.out.2.1
            omega)
          have HS2 := Lib.hid h2.bel.size
          have HPB := Lib.hid hpb
          have HTK := Lib.hid htk
          have HIG := Lib.hid hig
          clear htk hig c r1 hy hi hP h1 h2 bA bB hyl hsz hpb hTB e hk1 hk2 hk3
          have AFT := Lib.hid (show ∀ (v3 : Value) (x3 : World), OwnR x3 w.heap.size 38 8 v3 (prr ++ [[.string (bs y.n), .int .i64 (y.l + (1 + ((m : Nat) : Int))), .int .i64 y.fr, .string (bs y.oid), .bool y.wi, .slice po y.ts.length pc, .slice qo y.ss.length qc, .bool y.dr]]) → ((wr.alloc (.cells #[.string (bs y.n), .int .i64 (y.l + (1 + ((m : Nat) : Int))), .int .i64 y.fr, .string (bs y.oid), .bool y.wi, .slice po y.ts.length pc, .slice qo y.ss.length qc, .bool y.dr] 38)).alloc (.cells #[.string (bs y.n), .int .i64 (y.l + (1 + ((m : Nat) : Int))), .int .i64 y.fr, .string (bs y.oid), .bool y.wi, .slice po y.ts.length pc, .slice qo y.ss.length qc, .bool y.dr] 38)).grownBy x3 (Value.ownBlock (.slice ya pk.ru.length yc)) → (∀ g, v3.ownBlock = some g → Value.ownBlock (.slice ya pk.ru.length yc) = some g ∨ g = ((wr.alloc (.cells #[.string (bs y.n), .int .i64 (y.l + (1 + ((m : Nat) : Int))), .int .i64 y.fr, .string (bs y.oid), .bool y.wi, .slice po y.ts.length pc, .slice qo y.ss.length qc, .bool y.dr] 38)).alloc (.cells #[.string (bs y.n), .int .i64 (y.l + (1 + ((m : Nat) : Int))), .int .i64 y.fr, .string (bs y.oid), .bool y.wi, .slice po y.ts.length pc, .slice qo y.ss.length qc, .bool y.dr] 38)).heap.size) → ∃ ao3 cap3, v3 = .slice ao3 (prr.length + 1) cap3 ∧ World.cell? x3 ⟨w5.heap.size, 1, none⟩ = some (.slice ya pk.ru.length yc) ∧ x3.frozen? ⟨w5.heap.size, 1, none⟩ = false ∧ PbR w (w2.alloc (.cells #[.slice ta1 k1.tb.length tc1, .slice ra1 k1.ru.length rc1, .slice wa1 k1.wt.length wc1] 27)).heap.size w5.heap.size w3.heap.size w4.heap.size w5.heap.size (Bv.mk (.slice ta2 k2.tb.length tc2) rt2 (.slice (some ⟨q, o, none⟩) k2.ru.length rc2) rr2 (.slice wa2 k2.wt.length wc2) k2) (Bv.mk (.slice ta3 k3.tb.length tc3) rt3 (.slice ra3 k3.ru.length rc3) rr3 (.slice wa3 k3.wt.length wc3) k3) (fun i => (⟨k1.tb ++ k2.tb.map (shT (m + 1)), k1.ru ++ (k2.ru.take i).map (shR (m + 1)), k1.wt⟩ : Bk)) k2.ru.length (G) (.int .i64 (((i : Nat) : Int) + 1)) (x3.setCell ⟨w5.heap.size, 1, none⟩ (.slice ao3 (prr.length + 1) cap3)) by
            intro v3 x3 m3 g3 l3
            have d15 := blk_grown HH2.out.c15 g3 HO2.out.1 (by decide)
            have h3 := HH2.out.rul HF.out HRW.out m3 g3 l3
            obtain ⟨ao3, cap3, hv3, -⟩ := m3.form (by decide)
            rw [List.length_append, List.length_singleton] at hv3
            subst hv3
            refine ⟨ao3, cap3, rfl, cellRow d15 1, freeRow d15 1, i + 1, _, by have := HIG.out; omega, rfl, h3, ?_⟩
            simp only [HPB.out, HTK.out, List.map_append, List.map_cons, List.map_nil, List.append_assoc])
          clear HH2 HRW HPB HTK HIG
          go_wp2_with (refine appRwX rfl rfl Tryz.underlying24 ruinfo rfl (by decide) (by decide) _ rfl HO2.out (wr.heap.size + 1) [.string (bs y.n), .int .i64 (y.l + (1 + ((m : Nat) : Int))), .int .i64 y.fr, .string (bs y.oid), .bool y.wi, .slice po y.ts.length pc, .slice qo y.ss.length qc, .bool y.dr] rfl HX2.out rfl rfl (by intro u hu; simp at hu; rcases hu with rfl | rfl | rfl | rfl | rfl | rfl | rfl | rfl <;> rfl) HL2.out HS2.out ?_; intro v3 x3 m3 g3 l3; obtain ⟨ao3, cap3, rfl, z3, f3, hnx⟩ := AFT.out _ _ m3 g3 l3; have HNX := Lib.hid hnx; clear hnx m3 g3 l3)
          go_roundg G
          case measure => omega
          case rel => exact HNX.out
        · have hi2 : ¬ ((i : Nat) : Int) < ((k2.ru.length : Nat) : Int) := by omega
          have hie : i = k2.ru.length := by omega
          subst hie
          have H03 := Lib.hid (show PbR w (w2.alloc (.cells #[.slice ta1 k1.tb.length tc1, .slice ra1 k1.ru.length rc1, .slice wa1 k1.wt.length wc1] 27)).heap.size w5.heap.size w3.heap.size w4.heap.size w5.heap.size (Bv.mk (.slice ta2 k2.tb.length tc2) rt2 (.slice ra2 k2.ru.length rc2) rr2 (.slice wa2 k2.wt.length wc2) k2) (Bv.mk (.slice ta3 k3.tb.length tc3) rt3 (.slice ra3 k3.ru.length rc3) rr3 (.slice wa3 k3.wt.length wc3) k3) (fun i => (⟨k1.tb ++ k2.tb.map (shT (m + 1)), k1.ru ++ k2.ru.map (shR (m + 1)), k1.wt ++ (k2.wt.take i).map (shW (m + 1))⟩ : Bk)) k2.wt.length (k2.wt.length) (.int .i64 0) (wr) from ⟨0, _, by omega, rfl, hP, by rw [hpb]; simp⟩)
          have y2 := cellRow hP.c8 2
          clear hP hpb hig
          go_wp2_with fail
          go_loopg [110] k2.wt.length (fun g v110 wr => PbR w (w2.alloc (.cells #[.slice ta1 k1.tb.length tc1, .slice ra1 k1.ru.length rc1, .slice wa1 k1.wt.length wc1] 27)).heap.size w5.heap.size w3.heap.size w4.heap.size w5.heap.size (Bv.mk (.slice ta2 k2.tb.length tc2) rt2 (.slice ra2 k2.ru.length rc2) rr2 (.slice wa2 k2.wt.length wc2) k2) (Bv.mk (.slice ta3 k3.tb.length tc3) rt3 (.slice ra3 k3.ru.length rc3) rr3 (.slice wa3 k3.wt.length wc3) k3) (fun i => (⟨k1.tb ++ k2.tb.map (shT (m + 1)), k1.ru ++ k2.ru.map (shR (m + 1)), k1.wt ++ (k2.wt.take i).map (shW (m + 1))⟩ : Bk)) k2.wt.length (g) (v110) (wr))
          case atStart => exact H03.out
          case round =>
            obtain ⟨i, p, hig, rfl, hP, hpb⟩ := hrel
            clear H03
            by_cases hi : i < k2.wt.length
            · obtain ⟨G, rfl⟩ : ∃ G, gk = G + 1 := ⟨gk - 1, by omega⟩
              have hi2 : ((i : Nat) : Int) < ((k2.wt.length : Nat) : Int) := by omega
              obtain ⟨pt, prt, pv, prr, pw, pk⟩ := p
              obtain ⟨xa, xc, ya, yc, va, vc, e1, e2, e3, -, -, -⟩ := hP.o.form
              simp only at e1 e2 e3 hpb
              subst e1 e2 e3
              obtain ⟨ta', tc', ra', rc', wa', wc', -, -, f1, -, -, r1⟩ := hP.o2.form
              simp only at f1
              injection f1 with f1 _ f3
              subst f1 f3
              obtain ⟨q, o, rfl, c⟩ := rdrw_at r1 (i := i) (by rw [List.length_map]; exact hi)
              simp only [map_at hi] at c
              unfold wtRow at c
              obtain ⟨a0, a1, a2, a3, a4, a5, a6, a7, a8, a9⟩ : _ ∧ _ ∧ _ ∧ _ ∧ _ ∧ _ ∧ _ ∧ _ ∧ _ ∧ _ := ⟨c 0 (by omega), c 1 (by omega), c 2 (by omega), c 3 (by omega), c 4 (by omega), c 5 (by omega), c 6 (by omega), c 7 (by omega), c 8 (by omega), c 9 (by omega)⟩
              simp only [List.getElem?_cons_zero, List.getElem?_cons_succ, Nat.add_zero] at a0 a1 a2 a3 a4 a5 a6 a7 a8 a9
              have hy := HLB.out.2.2 _ (List.getElem_mem hi)
              have htk : k2.wt.take (i + 1) = k2.wt.take i ++ [k2.wt[i]] := by rw [List.take_add_one, List.getElem?_eq_getElem hi]; rfl
              generalize k2.wt[i] = y at *
              have z2 : IntKind.i64.wrap (y.l + (1 + ((m : Nat) : Int))) = y.l + (1 + ((m : Nat) : Int)) := IntWalk.i64_in _ (by have := HT.out; have := HML.out; omega)
              have z4 : IntKind.i64.wrap (((i : Nat) : Int) + 1) = ((i : Nat) : Int) + 1 := IntWalk.i64_in _ (by have := HSU.out.2.2; omega)
              have hyl : (shW (m + 1) y).l = y.l + (1 + ((m : Nat) : Int)) := by unfold shW; simp only; omega
              have bA := alloc_below wr (.cells #[.string (bs y.n), .int .i64 (y.l + (1 + ((m : Nat) : Int))), .int .i64 y.k, .string (bs y.cl), .string (bs y.ot), .int .i64 y.ct, .int .i64 y.wn, .string (bs y.ra), .int .i64 y.lv, .string (bs y.tx)] 40)
              have bB := alloc_below (wr.alloc (.cells #[.string (bs y.n), .int .i64 (y.l + (1 + ((m : Nat) : Int))), .int .i64 y.k, .string (bs y.cl), .string (bs y.ot), .int .i64 y.ct, .int .i64 y.wn, .string (bs y.ra), .int .i64 y.lv, .string (bs y.tx)] 40)) (.cells #[.string (bs y.n), .int .i64 (y.l + (1 + ((m : Nat) : Int))), .int .i64 y.k, .string (bs y.cl), .string (bs y.ot), .int .i64 y.ct, .int .i64 y.wn, .string (bs y.ra), .int .i64 y.lv, .string (bs y.tx)] 40)
              have h1 := hP.below bA
              have h2 := h1.below bB
              have HRW := Lib.hid (show wtRow (shW (m + 1) y) = [.string (bs y.n), .int .i64 (y.l + (1 + ((m : Nat) : Int))), .int .i64 y.k, .string (bs y.cl), .string (bs y.ot), .int .i64 y.ct, .int .i64 y.wn, .string (bs y.ra), .int .i64 y.lv, .string (bs y.tx)] by unfold wtRow; rw [hyl]; rfl)
              have zS1 : World.cell? (wr.alloc (.cells #[.string (bs y.n), .int .i64 (y.l + (1 + ((m : Nat) : Int))), .int .i64 y.k, .string (bs y.cl), .string (bs y.ot), .int .i64 y.ct, .int .i64 y.wn, .string (bs y.ra), .int .i64 y.lv, .string (bs y.tx)] 40)) ⟨w5.heap.size, 2, none⟩ = some (.slice va pk.wt.length vc) := cellRow h1.c15 2
              have HH2 := Lib.hid h2
              have HO2 := Lib.hid h2.o.2.2.2.2
              have HX2 := Lib.hid (rowNew (wr.alloc (.cells #[.string (bs y.n), .int .i64 (y.l + (1 + ((m : Nat) : Int))), .int .i64 y.k, .string (bs y.cl), .string (bs y.ot), .int .i64 y.ct, .int .i64 y.wn, .string (bs y.ra), .int .i64 y.lv, .string (bs y.tx)] 40)) (.cells #[.string (bs y.n), .int .i64 (y.l + (1 + ((m : Nat) : Int))), .int .i64 y.k, .string (bs y.cl), .string (bs y.ot), .int .i64 y.ct, .int .i64 y.wn, .string (bs y.ra), .int .i64 y.lv, .string (bs y.tx)] 40))
              have hsz := World.size_alloc wr (.cells #[.string (bs y.n), .int .i64 (y.l + (1 + ((m : Nat) : Int))), .int .i64 y.k, .string (bs y.cl), .string (bs y.ot), .int .i64 y.ct, .int .i64 y.wn, .string (bs y.ra), .int .i64 y.lv, .string (bs y.tx)] 40)
              rw [hsz] at HX2
              have HL2 := Lib.hid (show (pk.wt.map wtRow).length ≤ 1000000 by
                have g1 : (pk.wt.map wtRow).length = pk.wt.length := List.length_map _
                rw [g1, hpb]
                simp only [List.length_append, List.length_map, List.length_take]
                have := HSU.out.2.2
                omega)
              have HS2 := Lib.hid h2.bel.size
              have HPB := Lib.hid hpb
              have HTK := Lib.hid htk
              have HIG := Lib.hid hig
              clear htk hig c r1 hy hi hP h1 h2 bA bB hyl hsz hpb
              have AFT := Lib.hid (show ∀ (v3 : Value) (x3 : World), OwnR x3 w.heap.size 40 10 v3 ((pk.wt.map wtRow) ++ [[.string (bs y.n), .int .i64 (y.l + (1 + ((m : Nat) : Int))), .int .i64 y.k, .string (bs y.cl), .string (bs y.ot), .int .i64 y.ct, .int .i64 y.wn, .string (bs y.ra), .int .i64 y.lv, .string (bs y.tx)]]) → ((wr.alloc (.cells #[.string (bs y.n), .int .i64 (y.l + (1 + ((m : Nat) : Int))), .int .i64 y.k, .string (bs y.cl), .string (bs y.ot), .int .i64 y.ct, .int .i64 y.wn, .string (bs y.ra), .int .i64 y.lv, .string (bs y.tx)] 40)).alloc (.cells #[.string (bs y.n), .int .i64 (y.l + (1 + ((m : Nat) : Int))), .int .i64 y.k, .string (bs y.cl), .string (bs y.ot), .int .i64 y.ct, .int .i64 y.wn, .string (bs y.ra), .int .i64 y.lv, .string (bs y.tx)] 40)).grownBy x3 (Value.ownBlock (.slice va pk.wt.length vc)) → (∀ g, v3.ownBlock = some g → Value.ownBlock (.slice va pk.wt.length vc) = some g ∨ g = ((wr.alloc (.cells #[.string (bs y.n), .int .i64 (y.l + (1 + ((m : Nat) : Int))), .int .i64 y.k, .string (bs y.cl), .string (bs y.ot), .int .i64 y.ct, .int .i64 y.wn, .string (bs y.ra), .int .i64 y.lv, .string (bs y.tx)] 40)).alloc (.cells #[.string (bs y.n), .int .i64 (y.l + (1 + ((m : Nat) : Int))), .int .i64 y.k, .string (bs y.cl), .string (bs y.ot), .int .i64 y.ct, .int .i64 y.wn, .string (bs y.ra), .int .i64 y.lv, .string (bs y.tx)] 40)).heap.size) → ∃ ao3 cap3, v3 = .slice ao3 (pk.wt.length + 1) cap3 ∧ World.cell? x3 ⟨w5.heap.size, 2, none⟩ = some (.slice va pk.wt.length vc) ∧ x3.frozen? ⟨w5.heap.size, 2, none⟩ = false ∧ PbR w (w2.alloc (.cells #[.slice ta1 k1.tb.length tc1, .slice ra1 k1.ru.length rc1, .slice wa1 k1.wt.length wc1] 27)).heap.size w5.heap.size w3.heap.size w4.heap.size w5.heap.size (Bv.mk (.slice ta2 k2.tb.length tc2) rt2 (.slice ra2 k2.ru.length rc2) rr2 (.slice (some ⟨q, o, none⟩) k2.wt.length wc2) k2) (Bv.mk (.slice ta3 k3.tb.length tc3) rt3 (.slice ra3 k3.ru.length rc3) rr3 (.slice wa3 k3.wt.length wc3) k3) (fun i => (⟨k1.tb ++ k2.tb.map (shT (m + 1)), k1.ru ++ k2.ru.map (shR (m + 1)), k1.wt ++ (k2.wt.take i).map (shW (m + 1))⟩ : Bk)) k2.wt.length (G) (.int .i64 (((i : Nat) : Int) + 1)) (x3.setCell ⟨w5.heap.size, 2, none⟩ (.slice ao3 (pk.wt.length + 1) cap3)) by
                intro v3 x3 m3 g3 l3
                have d15 := blk_grown HH2.out.c15 g3 HO2.out.1 (by decide)
                have h3 := HH2.out.wat HF.out (t := shW (m + 1) y) (by rw [HRW.out]; exact m3) g3 l3
                obtain ⟨ao3, cap3, hv3, -⟩ := m3.form (by decide)
                rw [List.length_append, List.length_singleton, List.length_map] at hv3
                subst hv3
                refine ⟨ao3, cap3, rfl, cellRow d15 2, freeRow d15 2, i + 1, _, by have := HIG.out; omega, rfl, h3, ?_⟩
                simp only [HPB.out, HTK.out, List.map_append, List.map_cons, List.map_nil, List.append_assoc])
              clear HH2 HRW HPB HTK HIG
              go_wp2_with (refine appRwX rfl rfl Tryz.underlying25 wtinfo rfl (by decide) (by decide) _ rfl HO2.out (wr.heap.size + 1) [.string (bs y.n), .int .i64 (y.l + (1 + ((m : Nat) : Int))), .int .i64 y.k, .string (bs y.cl), .string (bs y.ot), .int .i64 y.ct, .int .i64 y.wn, .string (bs y.ra), .int .i64 y.lv, .string (bs y.tx)] rfl HX2.out rfl rfl (by intro u hu; simp at hu; rcases hu with rfl | rfl | rfl | rfl | rfl | rfl | rfl | rfl | rfl | rfl <;> rfl) HL2.out HS2.out ?_; intro v3 x3 m3 g3 l3; obtain ⟨ao3, cap3, rfl, z3, f3, hnx⟩ := AFT.out _ _ m3 g3 l3; have HNX := Lib.hid hnx; clear hnx m3 g3 l3)
              go_roundg G
              case measure => omega
              case rel => exact HNX.out
            · have hi2 : ¬ ((i : Nat) : Int) < ((k2.wt.length : Nat) : Int) := by omega
              have hie : i = k2.wt.length := by omega
              subst hie
              obtain ⟨pt, prt, pv, prr, pw, pk⟩ := p
              obtain ⟨xa, xc, ya, yc, va, vc, e1, e2, e3, -, -, -⟩ := hP.o.form
              simp only at e1 e2 e3 hpb
              subst e1 e2 e3
              have hk : pk = k3 := by rw [hpb, HK3.out]; simp [apB, shB]
              obtain ⟨u0, u1, u2⟩ : _ ∧ _ ∧ _ := ⟨cellRow hP.c11 0, cellRow hP.c11 1, cellRow hP.c11 2⟩
              obtain ⟨v0, v1, v2⟩ : _ ∧ _ ∧ _ := ⟨cellRow hP.c15 0, cellRow hP.c15 1, cellRow hP.c15 2⟩
              have q3 : (((c3 : Nat) : Int) == 0) = true := by rw [HC3.out]; rfl
              have g3 := hP.o3.val.read
              have g4 := hP.o.val.read
              simp only [Bv.v, hk] at g3 g4
              have hlk : pk.tb.length = k3.tb.length ∧ pk.ru.length = k3.ru.length ∧ pk.wt.length = k3.wt.length := by rw [hk]; exact ⟨rfl, rfl, rfl⟩
              have HG3 := Lib.hid g3
              have HG4 := Lib.hid g4
              have HBL := Lib.hid hP.bel
              subst hk
              clear hP hpb hig g3 g4 hlk
              go_wp2_with fail
              refine (HX.out.same _ _ _ _ wr HB3.out HB3.out HG3.out HG4.out (HI.out _ HBL.out)).mono ?_
              rintro e w9 ⟨rfl, b9⟩
              rw [decide_eq_true rfl]
              go_wp2
              go_ret
              exact ⟨rfl, HBL.out.trans (b9.mono HBL.out.size)⟩
end Go.Proofs.YtaeglmgpoboihaaGreatDoor
