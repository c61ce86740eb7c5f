/- The document's text, walked. -/
import Derived.Test.YtkobjbmjefkmgaaDoorLexB
namespace Go.Proofs.YtkobjbmjefkmgaaDoor
open Go.ChangeShapes Go.WideShapes Go.ChangeAt Go.RowKit K L14
set_option linter.unusedVariables false

theorem text_nil : L14.text [] = none := rfl
theorem text_end (t : List UInt8) : L14.text (34 :: t) = some ([], 1) := rfl
theorem text_low {c : UInt8} {t : List UInt8} (h : c.toNat < 32) : L14.text (c :: t) = none := by
  have hc : ¬ c = 34 := fun e => by subst e; exact absurd h (by decide)
  unfold L14.text
  simp only [txt, if_neg hc, if_pos h]
theorem text_bad {t : List UInt8} (h : esc t = none) : L14.text (92 :: t) = none := by
  unfold L14.text
  simp only [txt]
  rw [if_neg (by decide), if_neg (by decide), if_pos trivial, h]
theorem text_esc {t : List UInt8} {b : UInt8} {n : Nat} (h : esc t = some (b, n)) : L14.text (92 :: t) = (L14.text (t.drop n)).map fun y => (b :: y.1, y.2 + 1 + n) := by
  have hn := esc_n h
  have e : L14.text (92 :: t) = (txt (t.length + 1) (t.drop n)).map fun y => (b :: y.1, y.2 + 1 + n) := by
    unfold L14.text
    simp only [txt]
    rw [if_neg (by decide), if_neg (by decide), if_pos trivial, h]
    rfl
  rw [e, txt_more (t.length + 1) ((t.drop n).length + 1) (t.drop n) (by rw [List.length_drop]; omega) (by omega)]
  rfl
theorem text_own {c : UInt8} {t : List UInt8} (h1 : c ≠ 34) (h2 : ¬ c.toNat < 32) (h3 : c ≠ 92) : L14.text (c :: t) = (L14.text t).map fun y => (c :: y.1, y.2 + 1) := by
  unfold L14.text
  simp only [txt, if_neg h1, if_neg h2, if_neg h3, List.length_cons]
/-- What text answers. -/
def txS (s : List UInt8) : List UInt8 := match L14.text s with | some (o, _) => o | none => []
def txN (s : List UInt8) : Nat := match L14.text s with | some (_, n) => n | none => 0
def TxRel (s : List UInt8) (w : World) (g : Nat) (v4 v5 : Value) (wr : World) : Prop :=
  ∃ i l, i ≤ s.length ∧ s.length - i ≤ g ∧ v5 = .int .i64 (i : Nat) ∧ OwnY wr w.heap.size v4 l ∧ l.length ≤ i ∧ L14.text s = ((L14.text (s.drop i)).map fun y => (l ++ y.1, y.2 + i)) ∧ Below w.heap.size w wr
set_option maxRecDepth 100000 in
set_option maxHeartbeats 1000000 in
theorem qtext_walk (s : List UInt8) (hs : s.length ≤ 1000000) (w : World) : Calls Tryd.prog 48 #[.string (bs s)] w fun e w' => e = .returned (.tuple #[.string (bs (txS s)), .int .i64 (txN s : Nat)]) ∧ Below w.heap.size w w' := by
  have H0 := Lib.hid (show TxRel s w s.length (.slice none 0 0) (.int .i64 (0 : Nat)) w from ⟨0, [], by omega, by omega, rfl, OwnY.nil _ _, by simp, by rw [List.drop_zero]; cases L14.text s <;> simp, Below.refl _ _⟩)
  go_enter Tryd.func48, Tryd.ntmps48
  go_wp2
  go_loopg [4, 5] s.length (fun g v4 v5 wr => TxRel s w g v4 v5 wr)
  case atStart => exact H0.out
  case round =>
    obtain ⟨i, l, hil, hig, rfl, hown, hll, htx, hb⟩ := hrel
    clear H0
    have hBs := hb.size
    have HB := Lib.hid hb
    by_cases hi : i < s.length
    · obtain ⟨G, rfl⟩ : ∃ G, gk = G + 1 := ⟨gk - 1, by omega⟩
      have hdr : s.drop i = s[i] :: s.drop (i + 1) := List.drop_eq_getElem_cons hi
      rw [hdr] at htx
      have hby : byt s i = s[i].toNat := byt_get s i hi
      have hi2 : ((i : Nat) : Int) < ((s.length : Nat) : Int) := by omega
      generalize s[i] = c at *
      by_cases c1 : c = 34
      · have hb34 : byt s i = 34 := by rw [hby, c1]; rfl
        rw [c1, text_end] at htx
        have HX := Lib.hid (show txS s = l ∧ txN s = 1 + i by unfold txS txN; rw [htx]; simp)
        have hcv := hown.conv
        clear c1 hby hdr hb htx hown
        go_wp2
        go_ret2
        rw [HX.out.1, HX.out.2]
        refine ⟨?_, HB.out⟩
        rw [show (((1 + i : Nat) : Int)) = (i : Int) + 1 by omega]
        rfl
      have hn34 : (((byt s i : Nat) : Int) == 34) = false := by
        rw [beq_eq_false_iff_ne]; intro e; exact c1 (UInt8.toNat_inj.1 (by rw [hby] at e; show c.toNat = 34; omega))
      by_cases c2 : c.toNat < 32
      · have h32 : ((byt s i : Nat) : Int) < 32 := by omega
        rw [text_low c2] at htx
        have HX := Lib.hid (show txS s = [] ∧ txN s = 0 by unfold txS txN; rw [htx]; simp)
        clear c1 hby hdr hb htx hown c2
        go_wp2
        go_ret2
        rw [HX.out.1, HX.out.2]
        exact ⟨rfl, HB.out⟩
      have h32 : ¬ ((byt s i : Nat) : Int) < 32 := by omega
      by_cases c3 : c = 92
      · have hb92 : byt s i = 92 := by rw [hby, c3]; rfl
        have HES := Lib.hid (fun w1 => qescaped_walk (s.drop (i + 1)) (by rw [List.length_drop]; omega) w1)
        have hlen : (s.drop (i + 1)).length = s.length - (i + 1) := List.length_drop ..
        have hi3 : ((i : Nat) : Int) + 1 ≤ ((s.length : Nat) : Int) := by omega
        rw [c3] at htx
        cases hx : esc (s.drop (i + 1)) with
        | none =>
          rw [text_bad hx] at htx
          have hE : escB (s.drop (i + 1)) = 0 ∧ escN (s.drop (i + 1)) = 0 := by unfold escB escN; rw [hx]; exact ⟨rfl, rfl⟩
          rw [hE.1, hE.2] at HES
          have HX := Lib.hid (show txS s = [] ∧ txN s = 0 by unfold txS txN; rw [htx]; simp)
          clear c1 c2 c3 hby hdr hb htx hown hx hE hlen
          go_wp2_with fail
          refine (HES.out _).mono ?_
          rintro e w1 ⟨rfl, nd, rfl⟩
          have HB1 := Lib.hid ((show Below wr.heap.size wr (wr.drewN nd) from ⟨rfl, rfl, rfl, Nat.le_refl _, fun _ _ => rfl⟩).mono hBs)
          generalize wr.drewN nd = w1 at *
          go_wp2
          go_ret2
          rw [HX.out.1, HX.out.2]
          exact ⟨rfl, HB.out.trans HB1.out⟩
        | some y =>
          obtain ⟨b, n⟩ := y
          have hn := esc_n hx
          rw [hlen] at hn
          obtain ⟨hn1, hn2⟩ := hn
          have hbl := b.toNat_lt
          rw [text_esc hx, List.drop_drop] at htx
          have hE : escB (s.drop (i + 1)) = (b.toNat : Nat) ∧ escN (s.drop (i + 1)) = n := by unfold escB escN; rw [hx]; exact ⟨rfl, rfl⟩
          rw [hE.1, hE.2] at HES
          have HTX := Lib.hid (show L14.text s = (L14.text (s.drop (i + n + 1))).map fun y => ((l ++ [b]) ++ y.1, y.2 + (i + n + 1)) by
            rw [htx, show i + 1 + n = i + n + 1 by omega, Option.map_map]
            congr 1
            funext y
            simp; omega)
          have hn0 : (((n : Nat) : Int) == 0) = false := by rw [beq_eq_false_iff_ne]; omega
          have HOW := Lib.hid hown
          clear c1 c2 c3 hby hdr hb htx hx hE hlen hown
          go_wp2_with fail
          refine (HES.out _).mono ?_
          rintro e w1 ⟨rfl, nd, rfl⟩
          have bd : Below wr.heap.size wr (wr.drewN nd) := ⟨rfl, rfl, rfl, Nat.le_refl _, fun _ _ => rfl⟩
          have hown1 := HOW.out.below bd
          have HB1 := Lib.hid (HB.out.trans (bd.mono hBs))
          have hBs2 : w.heap.size ≤ (wr.drewN nd).heap.size := hBs
          clear bd
          generalize wr.drewN nd = w1 at *
          go_wp2_with (at_builtin; refine appY (ys := [b]) rfl rfl rfl hown1 rfl (by simp [byts]) rfl (by simp; omega) hBs2 ?_)
          intro v' w' hown2 hbb
          have HO2 := Lib.hid hown2; have HB2 := Lib.hid (hbb _ HB1.out)
          clear hown2 hbb hown1
          go_wp2
          go_roundg G
          case measure => omega
          case rel => exact ⟨i + n + 1, l ++ [b], by omega, by omega, by rw [show (((i + n + 1 : Nat)) : Int) = (i : Int) + (n : Int) + 1 by omega], HO2.out, by simp; omega, HTX.out, HB2.out⟩
      · have hn92 : (((byt s i : Nat) : Int) == 92) = false := by
          rw [beq_eq_false_iff_ne]; intro e; exact c3 (UInt8.toNat_inj.1 (by rw [hby] at e; show c.toNat = 92; omega))
        rw [text_own c1 c2 c3] at htx
        have HTX := Lib.hid (show L14.text s = (L14.text (s.drop (i + 1))).map fun y => ((l ++ [c]) ++ y.1, y.2 + (i + 1)) by
          rw [htx, Option.map_map]
          congr 1
          funext y
          simp; omega)
        have HBY := Lib.hid hby
        clear c1 c2 c3 hby hdr hb htx
        go_wp2_with (at_builtin; refine appY (ys := [c]) rfl rfl rfl hown rfl (by simp [byts, HBY.out]) rfl (by simp; omega) hBs ?_)
        intro v' w' hown2 hbb
        have HO2 := Lib.hid hown2; have HB2 := Lib.hid (hbb _ HB.out)
        clear hown2 hbb hown
        go_wp2
        go_roundg G
        case measure => omega
        case rel => exact ⟨i + 1, l ++ [c], by omega, by omega, rfl, HO2.out, by simp; omega, HTX.out, HB2.out⟩
    · have hi2 : ¬ ((i : Nat) : Int) < ((s.length : Nat) : Int) := by omega
      rw [show s.drop i = [] from List.drop_eq_nil_of_le (by omega), text_nil] at htx
      have HX := Lib.hid (show txS s = [] ∧ txN s = 0 by unfold txS txN; rw [htx]; simp)
      clear htx hown hb
      go_wp2
      go_ret2
      rw [HX.out.1, HX.out.2]
      exact ⟨rfl, HB.out⟩
end Go.Proofs.YtkobjbmjefkmgaaDoor
