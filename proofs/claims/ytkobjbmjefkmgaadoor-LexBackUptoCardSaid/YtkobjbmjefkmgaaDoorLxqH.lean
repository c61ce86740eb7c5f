/- The program's skip, walked. -/
import Derived.Test.YtkobjbmjefkmgaaDoorLxqG
import Derived.Test.YtkobjbmjefkmgaaDoorLexR
import Derived.Shelf.Strings.SlTrimAscii
import Derived.Lib.IndexMore
namespace Go.Proofs.YtkobjbmjefkmgaaDoor
open Go.ChangeShapes Go.WideShapes Go.ChangeAt Go.RowKit K L14
set_option linter.unusedVariables false

/-- What stands behind the first line's end. -/
def aftL : List UInt8 → List UInt8
  | [] => []
  | c :: t => if c = 10 then t else aftL t
theorem aftL_len : ∀ s, (aftL s).length ≤ s.length
  | [] => Nat.le_refl _
  | c :: t => by
    have := aftL_len t
    simp only [aftL]; split <;> simp only [List.length_cons] <;> omega
theorem cut_aft : ∀ l : List UInt8, (Lib.cut l [10]).2.1 = aftL l := by
  have h : ∀ l : List UInt8, (if 0 ≤ Lib.indexByte l 10 then l.drop ((Lib.indexByte l 10).toNat + 1) else []) = aftL l := by
    intro l
    induction l with
    | nil => rfl
    | cons b l ih =>
      have hge := Lib.indexByte_ge l 10
      unfold aftL
      by_cases hb : b = 10
      · subst hb; rfl
      · rw [if_neg hb, ← ih]
        have hbb : (b == 10) = false := by rw [beq_eq_false_iff_ne]; exact hb
        by_cases h1 : Lib.indexByte l 10 = -1
        · have e : Lib.indexByte (b :: l) 10 = -1 := by unfold Lib.indexByte; rw [hbb, h1]; rfl
          rw [e, h1]; rfl
        · have h2 : (Lib.indexByte l 10 == -1) = false := by rw [beq_eq_false_iff_ne]; exact h1
          have e : Lib.indexByte (b :: l) 10 = Lib.indexByte l 10 + 1 := by
            rw [Lib.indexByte, hbb, h2]; rfl
          rw [e, if_pos (by omega), if_pos (by omega), show (Lib.indexByte l 10 + 1).toNat + 1 = ((Lib.indexByte l 10).toNat + 1) + 1 by omega, List.drop_succ_cons]
  intro l
  rw [← h l]
  unfold Lib.cut
  rw [Lib.index_one]
  split <;> rfl
def bl4 : List UInt8 := [9, 10, 13, 32]
theorem bl_has : ∀ n : Fin 256, bl4.contains (UInt8.ofNat n.val) = blN n.val := by decide +kernel
theorem bl_of (c : UInt8) : bl4.contains c = blN c.toNat := by
  have h := bl_has ⟨c.toNat, c.toNat_lt⟩
  simpa using h
theorem bl_35 : bl4.contains 35 = false := by decide
theorem rst_bl {c : UInt8} {t : List UInt8} (h : bl4.contains c = true) : rst (c :: t) = rst t := by
  have h35 : ¬ c = 35 := fun e => by rw [e, bl_35] at h; cases h
  unfold rst
  simp only [skp]
  rw [bl_of] at h
  rw [h, Bool.or_true, if_pos rfl, if_neg h35]
  rw [show (if c = 10 then false else false) = false by split <;> rfl, List.drop_succ_cons]
theorem rst_trim : ∀ s : List UInt8, rst (Lib.trimLeftS s bl4) = rst s
  | [] => rfl
  | c :: t => by
    unfold Lib.trimLeftS
    rw [List.dropWhile_cons]
    split
    · next h =>
      rw [rst_bl h]
      exact rst_trim t
    · rfl
theorem skp_true : ∀ t : List UInt8, t.drop (skp true t) = rst (aftL t)
  | [] => rfl
  | c :: t => by
    simp only [skp, aftL, Bool.true_or, if_true]
    by_cases h : c = 10
    · rw [if_pos h, if_pos h]; rfl
    · rw [if_neg h, if_neg h]
      rw [show (if c = 35 then true else true) = true by split <;> rfl, List.drop_succ_cons]
      exact skp_true t
theorem rst_rem (t : List UInt8) : rst (35 :: t) = rst (aftL t) := by
  rw [← skp_true t]
  rfl
theorem rst_stop {c : UInt8} {t : List UInt8} (h : ¬ c = 35) (h2 : bl4.contains c = false) : rst (c :: t) = c :: t := by
  unfold rst
  rw [bl_of] at h2
  rw [skp_stop h2 (by simpa using h)]; rfl
theorem trim_head (s : List UInt8) : Lib.trimLeftS s bl4 = [] ∨ ∃ c t, Lib.trimLeftS s bl4 = c :: t ∧ bl4.contains c = false := by
  cases h : Lib.trimLeftS s bl4 with
  | nil => exact .inl rfl
  | cons c t =>
    refine .inr ⟨c, t, rfl, ?_⟩
    have := List.head?_dropWhile_not (bl4.contains ·) s
    unfold Lib.trimLeftS at h
    rw [h] at this
    simpa using this
theorem trim_len (s : List UInt8) : (Lib.trimLeftS s bl4).length ≤ s.length := (List.dropWhile_sublist _).length_le
/-- Blanks are cut off. -/
theorem ltrim_walk (s : List UInt8) (w : World) : Calls Tryd.prog 35 #[.string (bs s), .string { data := #[9, 10, 13, 32] }] w fun e w' => e = .returned (.string (bs (Lib.trimLeftS s bl4))) ∧ Below w.heap.size w w' := by
  have h := Any.strings_TrimLeft_laid Tryd.lays161 (by kernel_rfl) (bs s) ⟨#[9, 10, 13, 32]⟩ w (by decide) (fun j b hj => by
    have hm : b ∈ ([9, 10, 13, 32] : List UInt8) := List.mem_of_getElem? hj
    simp at hm
    rcases hm with rfl | rfl | rfl | rfl <;> decide)
  rw [bs_toList] at h
  exact h
theorem lcut_walk (s : List UInt8) (hs : s.length ≤ 1000000000) (w : World) (T : LxI w) : Calls Tryd.prog 37 #[.string (bs s), .string { data := #[10] }] w fun e w' => (∃ a g, e = .returned (.tuple #[.string a, .string (bs (aftL s)), .bool g])) ∧ Below w.heap.size w w' := by
  obtain ⟨⟨m, hm⟩, -⟩ := T
  have hc := Tryd.strings_Cut (bs s) ⟨#[10]⟩ m w (by rw [bs_size]; omega) hm
  rw [bs_toList, show (⟨#[10]⟩ : ByteArray).data.toList = [10] from rfl, cut_aft] at hc
  exact hc.mono fun e w' ⟨h1, n, h2⟩ => ⟨⟨_, _, h1⟩, by rw [h2]; exact lx_dr (Below.refl _ _) n⟩
theorem hasp35 (c : UInt8) (t : List UInt8) : Lib.hasPrefix (c :: t) [35] = (c == 35) := by
  show List.isPrefixOf [35] (c :: t) = _
  by_cases h : c = 35
  · rw [h]; simp [List.isPrefixOf]
  · have h1 : (35 == c) = false := by rw [beq_eq_false_iff_ne]; exact fun e => h e.symm
    have h2 : (c == 35) = false := by rw [beq_eq_false_iff_ne]; exact h
    rw [h2]; simp only [List.isPrefixOf, h1, Bool.false_and]
def LkRel (s : List UInt8) (w : World) (g : Nat) (v : Value) (wr : World) : Prop :=
  ∃ b, b.length ≤ g ∧ b.length ≤ s.length ∧ v = .string (bs b) ∧ rst s = rst b ∧ (b = [] ∨ ∃ c t, b = c :: t ∧ bl4.contains c = false) ∧ Below w.heap.size w wr
set_option maxRecDepth 100000 in
set_option maxHeartbeats 1000000 in
theorem lskip_walk (s : List UInt8) (hs : s.length ≤ 1000000000) (w : World) (T : LxI w) :
    Calls Tryd.prog 20 #[.string (bs s)] w fun e w' => e = .returned (.tuple #[.string (bs (rst s)), .int .i64 (nls (s.take (skp false s)) : Nat)]) ∧ Below w.heap.size w w' := by
  have HT := Lib.hid (fun w1 (b : Below w.heap.size w w1) => LxI.below T b)
  have H1 := Lib.hid (ltrim_walk s w)
  clear T
  go_enter Tryd.func20, Tryd.ntmps20
  go_wp2_with fail
  refine H1.out.mono ?_
  rintro e w1 ⟨rfl, b1⟩
  have H0 := Lib.hid (show LkRel s w s.length (.string (bs (Lib.trimLeftS s bl4))) w1 from ⟨_, trim_len s, trim_len s, rfl, (rst_trim s).symm, trim_head s, b1⟩)
  clear b1
  go_wp2_with fail
  go_loopg [2] s.length (fun g v wr => LkRel s w g v wr)
  case atStart => exact H0.out
  case round =>
    obtain ⟨b, hbg, hbs, rfl, hr, hh, hb⟩ := hrel
    clear H0
    have HB := Lib.hid hb
    have HR := Lib.hid hr
    have HP := Lib.hid (Tryd.strings_HasPrefix (bs b) ⟨#[35]⟩ wr)
    rw [bs_toList, show (⟨#[35]⟩ : ByteArray).data.toList = [35] from rfl] at HP
    clear hb hr
    by_cases h35 : ∃ t, b = 35 :: t
    · obtain ⟨t, rfl⟩ := h35
      rw [hasp35] at HP
      obtain ⟨G, rfl⟩ : ∃ G, gk = G + 1 := ⟨gk - 1, by simp at hbg; omega⟩
      have HC := Lib.hid (fun w1 T => lcut_walk (35 :: t) (by omega) w1 T)
      have ha : aftL (35 :: t) = aftL t := by simp [aftL]
      rw [ha] at HC
      have hal := aftL_len t
      have htl := trim_len (aftL t)
      have HN := Lib.hid (fun w1 (b1 : Below w.heap.size w w1) => (show LkRel s w G (.string (bs (Lib.trimLeftS (aftL t) bl4))) w1 from ⟨_, by simp at hbg; omega, by simp at hbs; omega, rfl, by rw [rst_trim, HR.out, rst_rem], trim_head _, b1⟩))
      have HTR := Lib.hid (fun w1 => ltrim_walk (aftL t) w1)
      clear hh ha hal htl hbg hbs
      generalize 35 :: t = S at *
      go_wp2_with fail
      refine HP.out.mono ?_
      rintro e w2 ⟨rfl, rfl⟩
      go_wp2_with fail
      refine (HC.out _ (HT.out _ HB.out)).mono ?_
      rintro e w3 ⟨⟨av, gv, rfl⟩, b3⟩
      have HB3 := Lib.hid (HB.out.trans (b3.mono HB.out.size))
      clear b3
      go_wp2_with fail
      refine (HTR.out _).mono ?_
      rintro e w4 ⟨rfl, b4⟩
      have HX := Lib.hid (HN.out _ (HB3.out.trans (b4.mono HB3.out.size)))
      clear b4
      go_wp2
      go_roundg G
      case measure => omega
      case rel => exact HX.out
    · have hp : Lib.hasPrefix b [35] = false ∧ rst b = b := by
        rcases hh with rfl | ⟨c, t, rfl, hc⟩
        · exact ⟨rfl, rfl⟩
        · have h1 : ¬ c = 35 := fun e => h35 ⟨t, by rw [e]⟩
          exact ⟨by rw [hasp35]; simpa using h1, rst_stop h1 hc⟩
      rw [hp.1] at HP
      have hrs : rst s = b := HR.out.trans hp.2
      have hsk : s.length - b.length = skp false s := by
        have := skp_le false s
        rw [← hrs]; unfold rst; rw [List.length_drop]; omega
      have HCN := Lib.hid (Tryd.strings_Count_one (bs (s.take (skp false s))) 10 wr)
      rw [bs_toList] at HCN
      have HE := Lib.hid hrs
      have hk := skp_le false s
      have hki : ((s.length : Nat) : Int) - ((b.length : Nat) : Int) = ((skp false s : Nat) : Int) := by omega
      clear hh h35 hp hrs hsk hbg
      go_wp2_with fail
      refine HP.out.mono ?_
      rintro e w2 ⟨rfl, rfl⟩
      go_wp2_with fail
      refine HCN.out.mono ?_
      rintro e w3 ⟨rfl, rfl⟩
      go_wp2
      go_ret2
      exact ⟨by rw [HE.out]; rfl, HB.out⟩
end Go.Proofs.YtkobjbmjefkmgaaDoor
