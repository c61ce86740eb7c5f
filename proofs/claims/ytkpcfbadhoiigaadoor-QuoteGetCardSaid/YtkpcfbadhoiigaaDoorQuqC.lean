/- The program's Escape and value, walked. -/
import Derived.Test.YtkpcfbadhoiigaaDoorQuqB
import Derived.Test.YtkpcfbadhoiigaaDoorBld
namespace Go.Proofs.YtkpcfbadhoiigaaDoor
open Go.ChangeShapes Go.WideShapes Go.ChangeAt Go.RowKit K Q10
set_option linter.unusedVariables false

theorem Bld.new0 (w : World) : Bld w.heap.size w.heap.size [] (w.alloc (.cells #[.pointer none, .slice none 0 0] 59)) :=
  .inl ⟨Nat.le_refl _, _, rowNew w _, World.ownsRow_nil _ _ _ _, by simp [Value.ownBlock]⟩
theorem kp_bel {S : List Nat} {a b c : World} {B : Nat} (h : Kp S a b) (k : Below B b c) (hB : a.heap.size ≤ B) : Kp S a c :=
  ⟨k.os.trans h.os, k.tape.trans h.tape, k.output.trans h.output, Nat.le_trans h.size k.size, fun i hi hn => (k.block i (by omega)).trans (h.block i hi hn)⟩
theorem own_kp {w w' : World} {B : Nat} {T : TypeId} {n : Nat} {v : Value} {m : Nat} {xs : List Value} (h : w.ownsRow B T n v m xs) {S : List Nat} (k : Kp S w w') (hS : ∀ x ∈ S, x < B) : w'.ownsRow B T n v m xs := by
  refine ⟨h.1, ?_⟩
  rcases h.2 with hn | ⟨g, cap, cur, h1, h2, h3, h4⟩
  · exact .inl hn
  · exact .inr ⟨g, cap, cur, h1, h2, k.heap h3 (fun hm => by have := hS _ hm; omega), h4⟩
theorem bld_kp {w w' : World} {B b : Nat} {l : List UInt8} (h : Bld B b l w) {S : List Nat} (k : Kp S w w') (hS : ∀ x ∈ S, x < B) : Bld B b l w' := by
  unfold Bld at *
  rcases h with ⟨hB, v, hbk, hown, hne⟩ | ⟨hB, v, hbk, hown, hne⟩
  · exact .inl ⟨hB, v, k.heap hbk (fun hm => by have := hS _ hm; omega), own_kp hown k hS, hne⟩
  · exact .inr ⟨hB, v, k.heap hbk (fun hm => by have := hS _ hm; omega), own_kp hown k hS, hne⟩
def EcRel (l : List UInt8) (w : World) (g : Nat) (v4 v7 : Value) (wr : World) : Prop :=
  ∃ p, p + g = l.length ∧ v7 = .int .i64 (p : Nat) ∧ Bld w.heap.size w.heap.size (esc (l.take p)) wr ∧ Below w.heap.size w wr
set_option maxRecDepth 100000 in
set_option maxHeartbeats 1000000 in
theorem escape_walk (l : List UInt8) (hl : l.length ≤ 1000000000) (w : World) :
    Calls Tryd.prog 14 #[.string (bs l)] w fun e w' => e = .returned (.string (bs (esc l))) ∧ Below w.heap.size w w' := by
  have hbf := Bld.new0 w
  have hba : Below w.heap.size w (w.alloc (.cells #[.pointer none, .slice none 0 0] 59)) := (Below.refl _ _).alloc (Nat.le_refl _) _
  go_enter Tryd.func14, Tryd.ntmps14
  go_wp2
  go_loopg [4, 7] l.length (fun g v4 v7 wr => EcRel l w g v4 v7 wr)
  case atStart => exact ⟨0, by omega, rfl, hbf, hba⟩
  case round =>
    obtain ⟨p, hg, rfl, hB, hb⟩ := hrel
    clear hbf hba
    cases gk with
    | zero =>
      have hp : l.length ≤ p := by omega
      have HP := Lib.hid (show esc (l.take p) = esc l by rw [List.take_of_length_le (by omega)])
      have HS := Lib.hid (bstr _ _ _ _ hB hb.size)
      clear hB
      go_wp2_with fail
      refine HS.out.mono ?_
      rintro e w1 ⟨rfl, b1⟩
      have hb2 := hb.trans b1
      go_wp2
      go_ret
      rw [HP.out]
      exact ⟨rfl, hb2⟩
    | succ g =>
      have hp : p < l.length := by omega
      have HS := Lib.hid (esc_step l p hp)
      have hE : (esc (l.take p)).length ≤ 2000000000 := by
        have := esc_le (l.take p); rw [List.length_take] at this; omega
      have HSP := Lib.hid (fun w1 => isescaped_walk (byt l p) w1)
      have hx := byt_getD l p
      have HBY := Lib.hid (fun out w1 (h : Bld w.heap.size w.heap.size out w1) hl => wbyte w.heap.size w.heap.size out (l.getD p 0) w1 h hl)
      rw [hx] at HBY
      clear hx
      generalize esc (l.take p) = E at *
      generalize l.getD p 0 = x at *
      have HB := Lib.hid hb
      have HD := Lib.hid hB
      clear hb hB
      cases hs : spN (byt l p)
      · rw [hs] at HSP HS
        clear hs
        go_wp2_with fail
        refine (HSP.out _).mono ?_
        rintro e w1 ⟨rfl, rfl⟩
        go_wp2_with fail
        refine (HBY.out _ _ HD.out (by omega) HB.out.size).mono ?_
        rintro e w2 ⟨rfl, hB2, b2⟩
        have hbd2 := HB.out.trans b2
        go_wp2
        go_roundg g
        case measure => omega
        case rel => exact ⟨p + 1, by omega, by simp, by rw [HS.out]; exact hB2, hbd2⟩
      · rw [hs] at HSP HS
        clear hs
        go_wp2_with fail
        refine (HSP.out _).mono ?_
        rintro e w1 ⟨rfl, rfl⟩
        go_wp2_with fail
        refine (wbyte _ _ E 92 _ HD.out (by omega) HB.out.size).mono ?_
        rintro e w2 ⟨rfl, hB2, b2⟩
        have hbd2 := HB.out.trans b2
        clear b2
        go_wp2_with fail
        refine (HBY.out _ _ hB2 (by simp; omega) hbd2.size).mono ?_
        rintro e w3 ⟨rfl, hB3, b3⟩
        have hbd3 := hbd2.trans b3
        clear hbd2 b3 hB2
        go_wp2
        go_roundg g
        case measure => omega
        case rel => exact ⟨p + 1, by omega, by simp, by rw [HS.out]; simpa using hB3, hbd3⟩
/-! ### A value -/
inductive VaAt (s : List UInt8) : Prop
  | nil (h : s = [])
  | stop (h0 : byt s 0 = 34 ∨ (byt s 0 ≠ 34 ∧ byt s 0 = 93)) (hne : s.isEmpty = false) (hpos : 0 < s.length) (e : vaP s = ([], s))
  | esc (h0 : byt s 0 = 92) (h1 : spN (byt s 1) = true) (hne : s.isEmpty = false) (hpos : 1 < s.length) (e : vaP s = ((s.drop 1).take 1 ++ (vaP ((s.drop 1).drop 1)).1, (vaP ((s.drop 1).drop 1)).2))
  | one (h34 : byt s 0 ≠ 34) (h93 : byt s 0 ≠ 93) (hk : byt s 0 ≠ 92 ∨ (byt s 0 = 92 ∧ s.length ≤ 1) ∨ (byt s 0 = 92 ∧ 1 < s.length ∧ spN (byt s 1) = false)) (hne : s.isEmpty = false) (hpos : 0 < s.length) (e : vaP s = (s.take 1 ++ (vaP (s.drop 1)).1, (vaP (s.drop 1)).2))
theorem u8n {a : UInt8} {n : Nat} (h : n < 256) : a.toNat = n ↔ a = UInt8.ofNat n := by
  constructor
  · intro e; apply UInt8.toNat_inj.1; rw [e]; simp; omega
  · rintro rfl; simp; omega
theorem va_all (s : List UInt8) : VaAt s := by
  cases s with
  | nil => exact .nil rfl
  | cons b t =>
    have hb : byt (b :: t) 0 = b.toNat := rfl
    by_cases h34 : b = 34
    · subst h34; refine .stop (.inl rfl) rfl (by simp) ?_
      cases t <;> simp [vaP]
    by_cases h93 : b = 93
    · subst h93; refine .stop (.inr ⟨fun e => absurd (show (93 : Nat) = 34 from e) (by decide), rfl⟩) rfl (by simp) ?_
      cases t <;> simp [vaP]
    have n34 : byt (b :: t) 0 ≠ 34 := fun e => h34 (UInt8.toNat_inj.1 e)
    have n93 : byt (b :: t) 0 ≠ 93 := fun e => h93 (UInt8.toNat_inj.1 e)
    have hor : ¬ (b = 34 ∨ b = 93) := fun e => e.elim h34 h93
    cases t with
    | nil =>
      refine .one n34 n93 ?_ rfl (by simp) (by simp [vaP, hor])
      by_cases h92 : b = 92
      · exact .inr (.inl ⟨by subst h92; rfl, by simp⟩)
      · exact .inl (fun e => h92 (UInt8.toNat_inj.1 e))
    | cons c q =>
      have hc : spN (byt (b :: c :: q) 1) = spc c := by rw [spc_of]; rfl
      by_cases h92 : b = 92
      · subst h92
        cases hs : spc c
        · exact .one n34 n93 (.inr (.inr ⟨rfl, by simp, by rw [hc]; exact hs⟩)) rfl (by simp) (by simp [vaP, hs])
        · exact .esc rfl (by rw [hc]; exact hs) rfl (by simp) (by simp [vaP, hs])
      · exact .one n34 n93 (.inl (fun e => h92 (UInt8.toNat_inj.1 e))) rfl (by simp) (by simp [vaP, hor, h92])
def VcRel (b : Nat) (s0 : List UInt8) (f : Bool) (w : World) (g : Nat) (wr : World) : Prop :=
  ∃ s out, s.length = g ∧ vaP s0 = (out ++ (vaP s).1, (vaP s).2) ∧ out.length + s.length ≤ s0.length ∧ RQ wr b s f ∧ Bld w.heap.size w.heap.size out wr ∧ Kp [b] w wr
set_option maxRecDepth 100000 in
set_option maxHeartbeats 2000000 in
theorem rvalue_walk0 (b : Nat) (s0 : List UInt8) (f : Bool) (hs : s0.length ≤ 1000000000) (w : World) (h : RQ w b s0 f) :
    Calls Tryd.prog 68 #[.pointer (some ⟨b, 0, none⟩)] w fun e w' => e = .returned (.string (bs (vaP s0).1)) ∧ Kp [b] w w' ∧ RQ w' b (vaP s0).2 f := by
  have hbf := Bld.new0 w
  have hlt : b < w.heap.size := lt_of_block h
  have a0 : Below w.heap.size w (w.alloc (.cells #[.pointer none, .slice none 0 0] 59)) := (Below.refl _ _).alloc (Nat.le_refl _) _
  have hka : Kp [b] w (w.alloc (.cells #[.pointer none, .slice none 0 0] 59)) := (Kp.refl _ _).alloc _
  have hra : RQ (w.alloc (.cells #[.pointer none, .slice none 0 0] 59)) b s0 f := (a0.block b hlt).trans h
  go_enter Tryd.func68, Tryd.ntmps68
  go_wp2_with fail
  go_loopg [] s0.length (fun g wr => VcRel b s0 f w g wr)
  case atStart => exact ⟨s0, [], rfl, rfl, by simp, hra, hbf, hka⟩
  case round =>
    obtain ⟨s, out, hg, hv, hlen, hr, hB, hk⟩ := hrel
    clear hbf hka hra a0 h
    have HK := Lib.hid hk
    have HD := Lib.hid hB
    have HR := Lib.hid hr
    have HL := Lib.hid hlen
    have HG := Lib.hid hg
    have HBN := Lib.hid (show ∀ x ∈ [b], x < w.heap.size by simpa using hlt)
    have hls : s.length ≤ 1000000000 := by omega
    obtain ⟨c0, c1, f0, f1⟩ := hr.cells
    clear hk hB hr hg hlen f0 f1 c1
    cases va_all s with
    | nil h0 =>
      subst h0
      have HV := Lib.hid (show vaP s0 = (out, []) by rw [hv]; simp [vaP])
      have HS := Lib.hid (bstr _ _ _ _ HD.out (by have := HK.out.size; omega))
      clear hv
      go_wp2_with fail
      refine HS.out.mono ?_
      rintro e w1 ⟨rfl, b1⟩
      go_wp2
      go_ret
      rw [HV.out]
      exact ⟨rfl, kp_bel HK.out b1 (Nat.le_refl _), (b1.block b hlt).trans HR.out⟩
    | stop h0 hne hpos e =>
      have HV := Lib.hid (show vaP s0 = (out, s) by rw [hv, e]; simp)
      have HS := Lib.hid (bstr _ _ _ _ HD.out (by have := HK.out.size; omega))
      clear hv e
      rcases h0 with h0 | ⟨h1, h0⟩
      · go_wp2_with fail
        refine HS.out.mono ?_
        rintro e w1 ⟨rfl, b1⟩
        go_wp2
        go_ret
        rw [HV.out]
        exact ⟨rfl, kp_bel HK.out b1 (Nat.le_refl _), (b1.block b hlt).trans HR.out⟩
      · clear h1
        go_wp2_with fail
        refine HS.out.mono ?_
        rintro e w1 ⟨rfl, b1⟩
        go_wp2
        go_ret
        rw [HV.out]
        exact ⟨rfl, kp_bel HK.out b1 (Nat.le_refl _), (b1.block b hlt).trans HR.out⟩
    | esc h0 h1 hne hpos e =>
      have HV := Lib.hid (show vaP s0 = ((out ++ (s.drop 1).take 1) ++ (vaP ((s.drop 1).drop 1)).1, (vaP ((s.drop 1).drop 1)).2) by rw [hv, e]; simp)
      have HC1 := Lib.hid (rcut_walk b s f 1 (by omega) (by omega) wr HR.out)
      have HC2 := Lib.hid (fun w1 h => rcut_walk b (s.drop 1) f 1 (by rw [List.length_drop]; omega) (by rw [List.length_drop]; omega) w1 h)
      have HE := Lib.hid (fun w1 => isescaped_walk (byt s 1) w1)
      rw [h1] at HE
      have e4 : (1 : Int) < ((s.length : Nat) : Int) := by omega
      have hpos0 : 0 < s.length := by omega
      clear hv e h1
      go_wp2_with fail
      refine (HE.out _).mono ?_
      rintro e w1 ⟨rfl, rfl⟩
      go_wp2_with fail
      refine HC1.out.mono ?_
      rintro e w1 ⟨rfl, k1, r1⟩
      have hD1 := bld_kp HD.out k1 HBN.out
      have hk1 := HK.out.trans k1
      clear k1 c0
      go_wp2_with fail
      refine (HC2.out _ r1).mono ?_
      rintro e w2 ⟨rfl, k2, r2⟩
      have hD2 := bld_kp hD1 k2 HBN.out
      have hk2 := hk1.trans k2
      clear k2 hD1 hk1 r1
      go_wp2_with fail
      refine (wstrB _ _ out _ _ hD2 (by have := HL.out; simp; omega) (by have := hk2.size; omega)).mono ?_
      rintro e w3 ⟨rfl, hD3, b3⟩
      have hk3 := kp_bel hk2 b3 (Nat.le_refl _)
      have hr3 : RQ w3 b _ f := (b3.block b hlt).trans r2
      have HK3 := Lib.hid hk3
      have HD3 := Lib.hid hD3
      have HR3 := Lib.hid hr3
      clear hk2 hD2 b3 r2 hk3 hD3 hr3
      go_wp2
      go_roundg ((s.drop 1).drop 1).length
      case measure => have := HG.out; simp; omega
      case rel => exact ⟨_, _, rfl, HV.out, by have := HL.out; simp; omega, HR3.out, by simpa only [List.drop_one] using HD3.out, HK3.out⟩
    | one h34 h93 hk hne hpos e =>
      have HV := Lib.hid (show vaP s0 = ((out ++ s.take 1) ++ (vaP (s.drop 1)).1, (vaP (s.drop 1)).2) by rw [hv, e]; simp)
      have HC1 := Lib.hid (fun w1 h => rcut_walk b s f 1 (by omega) (by omega) w1 h)
      have e1 : (((byt s 0 : Nat) : Int) != 34) = true := by rw [bne_iff_ne]; omega
      have e2 : (((byt s 0 : Nat) : Int) != 93) = true := by rw [bne_iff_ne]; omega
      clear hv e h34 h93
      have fin : ∀ w1, wr = w1 → RQ w1 b s f ∧ Bld w.heap.size w.heap.size out w1 ∧ Kp [b] w w1 := fun w1 h => by subst h; exact ⟨HR.out, HD.out, HK.out⟩
      have HF := Lib.hid fin
      clear fin
      rcases hk with hk | ⟨hk, hk1⟩ | ⟨hk, hk1, hk2⟩
      · have e3 : (((byt s 0 : Nat) : Int) == 92) = false := by rw [beq_eq_false_iff_ne]; omega
        clear hk
        go_wp2_with fail
        refine (HC1.out _ HR.out).mono ?_
        rintro e w2 ⟨rfl, k2, r2⟩
        have hD2 := bld_kp HD.out k2 HBN.out
        have hk2 := HK.out.trans k2
        clear k2
        go_wp2_with fail
        refine (wstrB _ _ out _ _ hD2 (by have := HL.out; simp; omega) (by have := hk2.size; omega)).mono ?_
        rintro e w3 ⟨rfl, hD3, b3⟩
        have hk3 := kp_bel hk2 b3 (Nat.le_refl _)
        have hr3 : RQ w3 b _ f := (b3.block b hlt).trans r2
        have HK3 := Lib.hid hk3
        have HD3 := Lib.hid hD3
        have HR3 := Lib.hid hr3
        clear hk2 hD2 b3 r2 hk3 hD3 hr3
        go_wp2
        go_roundg (s.drop 1).length
        case measure => have := HG.out; simp; omega
        case rel => exact ⟨_, _, rfl, HV.out, by have := HL.out; simp; omega, HR3.out, by simpa only [List.drop_one] using HD3.out, HK3.out⟩
      · have e4 : ¬ (1 : Int) < ((s.length : Nat) : Int) := by omega
        clear hk1 e1 e2
        go_wp2_with fail
        refine (HC1.out _ HR.out).mono ?_
        rintro e w2 ⟨rfl, k2, r2⟩
        have hD2 := bld_kp HD.out k2 HBN.out
        have hk2 := HK.out.trans k2
        clear k2
        go_wp2_with fail
        refine (wstrB _ _ out _ _ hD2 (by have := HL.out; simp; omega) (by have := hk2.size; omega)).mono ?_
        rintro e w3 ⟨rfl, hD3, b3⟩
        have hk3 := kp_bel hk2 b3 (Nat.le_refl _)
        have hr3 : RQ w3 b _ f := (b3.block b hlt).trans r2
        have HK3 := Lib.hid hk3
        have HD3 := Lib.hid hD3
        have HR3 := Lib.hid hr3
        clear hk2 hD2 b3 r2 hk3 hD3 hr3
        go_wp2
        go_roundg (s.drop 1).length
        case measure => have := HG.out; simp; omega
        case rel => exact ⟨_, _, rfl, HV.out, by have := HL.out; simp; omega, HR3.out, by simpa only [List.drop_one] using HD3.out, HK3.out⟩
      · have e4 : (1 : Int) < ((s.length : Nat) : Int) := by omega
        have HE := Lib.hid (fun w1 => isescaped_walk (byt s 1) w1)
        rw [hk2] at HE
        clear hk2 e1 e2
        go_wp2_with fail
        refine (HE.out _).mono ?_
        rintro e w1 ⟨rfl, rfl⟩
        go_wp2_with fail
        refine (HC1.out _ HR.out).mono ?_
        rintro e w2 ⟨rfl, k2, r2⟩
        have hD2 := bld_kp HD.out k2 HBN.out
        have hk2 := HK.out.trans k2
        clear k2
        go_wp2_with fail
        refine (wstrB _ _ out _ _ hD2 (by have := HL.out; simp; omega) (by have := hk2.size; omega)).mono ?_
        rintro e w3 ⟨rfl, hD3, b3⟩
        have hk3 := kp_bel hk2 b3 (Nat.le_refl _)
        have hr3 : RQ w3 b _ f := (b3.block b hlt).trans r2
        have HK3 := Lib.hid hk3
        have HD3 := Lib.hid hD3
        have HR3 := Lib.hid hr3
        clear hk2 hD2 b3 r2 hk3 hD3 hr3
        go_wp2
        go_roundg (s.drop 1).length
        case measure => have := HG.out; simp; omega
        case rel => exact ⟨_, _, rfl, HV.out, by have := HL.out; simp; omega, HR3.out, by simpa only [List.drop_one] using HD3.out, HK3.out⟩
theorem rvalue_walk (b : Nat) (r : Option (List UInt8)) (hs : Rl 1000000000 r) (w : World) (h : RO w b r) :
    Calls Tryd.prog 68 #[.pointer (some ⟨b, 0, none⟩)] w fun e w' => e = .returned (.string (bs (vaP (rst r)).1)) ∧ Kp [b] w w' ∧ RO w' b (r.map fun s => (vaP s).2) := by
  refine (rvalue_walk0 b (rst r) r.isNone hs w h).mono ?_
  rintro e w' ⟨h1, h2, h3⟩
  refine ⟨h1, h2, ?_⟩
  cases r with
  | none => exact h3
  | some s => exact h3
end Go.Proofs.YtkpcfbadhoiigaaDoor
