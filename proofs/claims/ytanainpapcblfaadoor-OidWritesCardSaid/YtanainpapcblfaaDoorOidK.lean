/- gonglaw06.named; OidBack, walked on calls that keep their word. -/
import Derived.Test.YtanainpapcblfaaDoorOidI
import Derived.Test.YtanainpapcblfaaDoorBook
namespace Go.Proofs.YtanainpapcblfaaDoor
open Go.ChangeShapes Go.WideShapes Go.ChangeAt Go.RowKit K O6
set_option linter.unusedVariables false

theorem wf_i64k {t : Int} (wt : (Lit.int .i64 t).wf = true) : -9223372036854775808 ≤ t ∧ t ≤ 9223372036854775807 := by
  simp [Lit.wf, IntKind.min, IntKind.max, IntKind.bits, IntKind.signed] at wt; omega
/-- The arcs of numbers. -/
def nmq (ns : Nat → Int) (n : Nat) : List Nat := (List.range n).map fun i => (belowN (ns i) 4294967296).toNat
def nmd (ns : Nat → Int) (n : Nat) : List Nat := 1 :: 3 :: nmq ns n
theorem nmq_succ (ns : Nat → Int) (n : Nat) : nmd ns (n + 1) = nmd ns n ++ [(belowN (ns n) 4294967296).toNat] := by
  unfold nmd nmq; rw [List.range_succ, List.map_append]; rfl
theorem nmd_len (ns : Nat → Int) (n : Nat) : (nmd ns n).length = n + 2 := by simp [nmd, nmq]
theorem nmd_arcs (ns : Nat → Int) (n : Nat) (hn : n ≤ 60) : isArcs (nmd ns n) = true := by
  unfold isArcs
  rw [nmd_len, decide_eq_true (by omega), decide_eq_true (by omega)]
  have h1 : (nmd ns n).all (fun a => decide (a ≤ 4294967295)) = true := by
    rw [List.all_eq_true]
    intro a ha
    rw [decide_eq_true_eq]
    unfold nmd nmq at ha
    rcases List.mem_cons.1 ha with rfl | ha
    · omega
    · rcases List.mem_cons.1 ha with rfl | ha
      · omega
      · obtain ⟨i, _, rfl⟩ := List.mem_map.1 ha
        have := belowN_bounds (ns i) 4294967296 (by omega)
        omega
  rw [h1]
  rfl
def NdPost (ns : Nat → Int) (n : Nat) (w : World) (e : Ending) (w' : World) : Prop :=
  ∃ v, e = .returned v ∧ OwnI w' w.heap.size 3 v (nmd ns (min n 60)) ∧ Below w.heap.size w w'
def NdRel (w : World) (ns : Nat → Int) (n g : Nat) (v3 v4 : Value) (wr : World) : Prop :=
  ∃ i, i + g = min n 60 ∧ v4 = .int .i64 (i : Nat) ∧ OwnI wr w.heap.size 3 v3 (nmd ns i) ∧ Below w.heap.size w wr
set_option maxRecDepth 100000 in
set_option maxHeartbeats 1000000 in
theorem named_walk (ao : Option Addr) (len cap : Nat) (ns : Nat → Int) (hb : ∀ i, (Lit.int .i64 (ns i)).wf = true) (hl : len ≤ 140737488351232) (w : World) (ha : RdZ w ao len ns) :
    Calls Tryd.prog 27 #[.slice ao len cap] w (NdPost ns len w) := by
  obtain ⟨i0, hi, hz0, hz1, hz2⟩ := info_of int_info6
  have HA := Lib.hid ha
  have HB := Lib.hid (fun i => wf_i64k (hb i))
  have hst : NdRel w ns len (min len 60) (.slice (some ⟨w.heap.size, 0, none⟩) 2 2) (.int .i64 ((0 : Nat) : Int)) (w.alloc (.cells #[.int .i64 ((1 : Nat) : Int), .int .i64 ((3 : Nat) : Int)] 3)) :=
    ⟨0, by omega, rfl, ownI_two w w.heap.size 3 1 3 (Nat.le_refl _), (Below.refl _ _).alloc (Nat.le_refl _) _⟩
  have HST := Lib.hid hst
  clear hb ha hst
  go_enter Tryd.func27, Tryd.ntmps27
  go_wp2
  go_loopg [3, 4] (min len 60) (fun g v3 v4 wr => NdRel w ns len g v3 v4 wr)
  case atStart => exact HST.out
  case round =>
    clear HST
    obtain ⟨i, hig, rfl, ho, hbr⟩ := hrel
    cases gk with
    | zero =>
      have hend : (i < len ∧ (60 : Int) ≤ (i : Nat)) ∨ ((len : Nat) : Int) ≤ (i : Nat) := by omega
      have hil : i = min len 60 := by omega
      have HO := Lib.hid ho
      obtain ⟨ao2, cap2, rfl, _⟩ := ho.form
      subst hil
      clear ho hig
      rcases hend with ⟨he1, he2⟩ | he1
      all_goals
        go_wp2
        go_ret
        exact ⟨_, rfl, HO.out, hbr⟩
    | succ g =>
      have hlt : i < len := by omega
      have h60 : ((i : Nat) : Int) < 60 := by omega
      have h60n : i < 60 := by omega
      rcases HA.out with h0 | ⟨bk, off, rfl, hbk, hc⟩
      · omega
      · have hcell : wr.cell? ⟨bk, off + i, none⟩ = some (.int .i64 (ns i)) := (hbr.cell (p := ⟨bk, off + i, none⟩) hbk).trans (hc i hlt)
        obtain ⟨wf0, wf1⟩ := HB.out i
        have HBl := Lib.hid (fun w2 => below_walk (ns i) 4294967296 wf0 wf1 (by omega) (by omega) w2)
        obtain ⟨k0, k1⟩ := belowN_bounds (ns i) 4294967296 (by omega)
        have hsu := nmq_succ ns i
        obtain ⟨X, hX⟩ := Int.eq_ofNat_of_zero_le k0
        rw [hX] at HBl hsu k1
        rw [Int.toNat_natCast] at hsu
        have hX2 : X ≤ 4294967295 := by omega
        have hln := nmd_len ns i
        have HSU := Lib.hid hsu
        obtain ⟨ao2, cap2, rfl, _⟩ := ho.form
        rw [hln]
        have ho' := ho
        unfold OwnI at ho'
        rw [hln] at ho'
        have HLN := Lib.hid hln
        generalize nmd ns i = D at *
        generalize ns i = y at *
        clear hX k0 k1 hsu hc ho hln
        go_wp2_with fail
        refine (HBl.out _).mono ?_
        rintro e x1 ⟨rfl, rfl⟩
        go_wp2_with (at_builtin; refine wpList_append_own _ rfl _ _ 23 rfl w.heap.size 3 i0 (.int .i64 0) 1 8 Tryd.underlying23 hi hz0 hz1 hz2 rfl (by decide) _ _ _ rfl (World.ownsRow.alloc ho' _) ⟨wr.heap.size, 0, none⟩ 1 1 [.int .i64 (X : Nat)] rfl rfl ?c1 ?c2 ?c3 ?c4 ?c5 ?_)
        case c1 =>
          intro j u hj
          match j, hj with
          | 0, hj => simp at hj; subst hj; simp [Addr.add]
        case c2 => intro u hu; simp at hu; subst hu; rfl
        case c3 => unfold maxLen; omega
        case c4 => omega
        case c5 => have := hbr.size; simp; omega
        intro v' w2 hown' hgrow _
        have hb3 := (hbr.alloc hbr.size (.cells #[.int .i64 (X : Nat)] 3)).grown hgrow (by have := hbr.size; simp; omega) (fun k hk => (World.ownsRow.lt ho' k hk).1)
        have ho3 : OwnI w2 w.heap.size 3 v' (D ++ [X]) := OwnI.put (by rw [HLN.out]; exact hown')
        clear hown' hgrow ho' hcell hbr
        go_wp2
        go_roundg g
        case measure => omega
        case rel => exact ⟨i + 1, by omega, by simp, by rw [HSU.out]; exact ho3, hb3⟩
theorem arL_put {l : List Nat} (h : isArcs l = true) : arL (put l) = l ∧ arE (put l) = 0 ∧ enS (put l) = eb l := by
  have := arcs_put h
  obtain ⟨h1, h2⟩ := ar_some this
  refine ⟨h2, h1, ?_⟩
  unfold enS; rw [this, h2]; rfl
theorem putL_len {l : List Nat} (h : isArcs l = true) : (put l).length ≤ 2000 := by
  have h1 := O6.put_len l (isArcs_le h)
  have h2 := isArcs_len h
  omega
theorem eb_len {l : List Nat} (h : isArcs l = true) : (eb l).length ≤ 2000 := by
  obtain ⟨x, y, r, rfl, hxy, hr⟩ := isArcs_two h
  have hall : ∀ z ∈ (40 * x + y) :: r, z ≤ 4294967295 := by
    intro z hz
    rcases List.mem_cons.1 hz with rfl | hz
    · omega
    · exact hr z hz
  have h1 := flat_small _ hall
  have h2 := isArcs_len h
  rw [eb_two]
  simp only [List.length_cons] at h1 h2
  omega
/-- The text of a list that the call made itself. -/
theorem OidOk.textOf {I : World → Prop} (K : OidOk I) {B : Nat} {ao : Option Addr} {cap : Nat} {l : List Nat} (hia : isArcs l = true) (w : World) (ho : OwnI w B 3 (.slice ao l.length cap) l) (hw : I w) :
    Calls Tryd.prog 17 #[.slice ao l.length cap] w fun e w' => e = .returned (.tuple #[.string (bs (put l)), .int .i64 0]) ∧ Below w.heap.size w w' := by
  obtain ⟨ao2, cap2, hv, hz⟩ := RdZ.own ho
  cases hv
  have hl := isArcs_len hia
  have h := K.text ao l.length cap (fz l) w l (by omega) hz (fun _ => ⟨rfl, hia, fun _ _ => rfl⟩) hw
  rw [isZ_fz, hia] at h
  exact h
set_option maxRecDepth 100000 in
set_option maxHeartbeats 2000000 in
theorem oidBack_walk (I : World → Prop) (K : OidOk I) (ao : Option Addr) (len cap : Nat) (ns : Nat → Int) (hb : ∀ i, (Lit.int .i64 (ns i)).wf = true) (hl : len ≤ 140737488351232) (b : List UInt8) (hbl : b.length ≤ 140737488351232) (w : World) (ha : RdZ w ao len ns) (hw : I w) :
    Calls Tryd.prog 5 #[.slice ao len cap, .string (bs b)] w fun e w' => e = .returned (.bool true) ∧ Below w.heap.size w w' := by
  have HW := Lib.hid (K.works w hw)
  have HK := Lib.hid K.keep
  have hia := nmd_arcs ns (min len 60) (by omega)
  have HN := Lib.hid (fun w1 (h : RdZ w1 ao len ns) => named_walk ao len cap ns hb hl w1 h)
  unfold NdPost at HN
  have HA := Lib.hid ha
  generalize nmd ns (min len 60) = A at *
  obtain ⟨e1, e2, e3⟩ := arL_put hia
  have hpl := putL_len hia
  have hel := eb_len hia
  have hAl := isArcs_len hia
  have HT := Lib.hid (fun a c w1 (ho : OwnI w1 _ 3 (.slice a A.length c) A) (h : I w1) => K.textOf (B := w.heap.size) hia w1 (ho.mono (Nat.le_refl _)) h)
  have hAr := fun w1 (h : I w1) => K.arcs (put A) w1 (by omega) h
  have hEn := fun w1 (h : I w1) => K.encode (put A) w1 (by omega) h
  have hDe := fun w1 (h : I w1) => K.decode (eb A) w1 (by omega) h
  unfold ArPost at hAr
  rw [e1, e2] at hAr
  rw [e2, e3] at hEn
  rw [(de_some (deA_eb hia)).1, (de_some (deA_eb hia)).2] at hDe
  have HAr := Lib.hid hAr; have HEn := Lib.hid hEn; have HDe := Lib.hid hDe
  have HD2 := Lib.hid (fun w1 (h : I w1) => K.decode b w1 hbl h)
  have HE2 := Lib.hid (fun (l : List Nat) w1 (h : I w1) (hl : (put l).length ≤ 1000000) => K.encode (put l) w1 hl h)
  have hA6 : A.length ≤ 1000000 := by omega
  generalize put A = PA at *
  generalize eb A = EA at *
  have sPA : (PA != PA) = false := by simp
  clear K hAr hEn hDe e1 e2 e3 hia hb hpl hel
  go_enter Tryd.func5, Tryd.ntmps5
  go_wp2_with fail
  refine HW.out.mono ?_
  rintro e w1 ⟨rfl, b1⟩
  go_wp2_with fail
  refine (HN.out w1 (HA.out.below b1)).mono ?_
  rintro e w2 ⟨v, rfl, ho, d⟩
  have b2 := b1.trans (d.mono b1.size)
  have ho := ho.mono b1.size
  obtain ⟨aq, cq, rfl, _⟩ := ho.form
  clear d b1
  go_wp2_with fail
  refine (HT.out _ _ w2 ho (HK.out _ _ hw b2)).mono ?_
  rintro e w3 ⟨rfl, d⟩
  have b3 := b2.trans (d.mono b2.size)
  have ho := ho.below d
  clear d b2
  go_wp2_with fail
  refine (HAr.out w3 (HK.out _ _ hw b3)).mono ?_
  rintro e w4 ⟨v4, rfl, ho4, d⟩
  have b4 := b3.trans (d.mono b3.size)
  have ho := ho.below d
  clear d b3
  go_wp2_with fail
  refine (HEn.out w4 (HK.out _ _ hw b4)).mono ?_
  rintro e w5 ⟨rfl, d⟩
  have b5 := b4.trans (d.mono b4.size)
  have ho := ho.below d
  have ho4 := ho4.below d
  clear d b4
  go_wp2_with fail
  refine (HDe.out w5 (HK.out _ _ hw b5)).mono ?_
  rintro e w6 ⟨rfl, d⟩
  have b6 := b5.trans (d.mono b5.size)
  have ho := ho.below d
  have ho4 := ho4.below d
  clear d b5
  go_wp2_with fail
  refine (same_walk A hA6 v4 _ w6 (RdI.of ho4) (RdI.of ho)).mono ?_
  rintro e w7 ⟨rfl, m, rfl⟩
  have b7 := Below_drewNg b6 m
  generalize w6.drewN m = w7 at b7 ⊢
  clear b6 ho ho4
  by_cases h500 : 500 < b.length
  · have h5 : (500 : Int) < ((b.length : Nat) : Int) := by omega
    clear h500
    go_wp2
    go_ret
    exact ⟨rfl, b7⟩
  · have h5 : ((b.length : Nat) : Int) ≤ 500 := by omega
    have hD2 := HD2.out w7 (HK.out _ _ hw b7)
    clear h500
    cases hd : deA b with
    | none =>
      rw [(de_none hd).1, (de_none hd).2] at hD2
      have HD3 := Lib.hid hD2
      clear hD2 hd
      go_wp2_with fail
      refine HD3.out.mono ?_
      rintro e w8 ⟨rfl, d⟩
      have b8 := b7.trans (d.mono b7.size)
      clear d
      go_wp2
      go_ret
      exact ⟨rfl, b8⟩
    | some l =>
      obtain ⟨hli, hle⟩ := deA_inv hd
      rw [(de_some hd).1, (de_some hd).2] at hD2
      have hE2 := fun w1 (h : I w1) => HE2.out l w1 h (by have := putL_len hli; omega)
      obtain ⟨f1, f2, f3⟩ := arL_put hli
      rw [f2, f3, hle] at hE2
      have HD3 := Lib.hid hD2
      have HE3 := Lib.hid hE2
      have sb : (b == b) = true := by simp
      generalize put l = PL at *
      clear hD2 hd hE2 f1 f2 f3 hle hli HE2 HD2
      go_wp2_with fail
      refine HD3.out.mono ?_
      rintro e w8 ⟨rfl, d⟩
      have b8 := b7.trans (d.mono b7.size)
      clear d
      go_wp2_with fail
      refine (HE3.out w8 (HK.out _ _ hw b8)).mono ?_
      rintro e w9 ⟨rfl, d⟩
      have b9 := b8.trans (d.mono b8.size)
      clear d
      go_wp2
      go_ret
      exact ⟨rfl, b9⟩
end Go.Proofs.YtanainpapcblfaaDoor
