/- The program's hexByte and escaped, walked. -/
import Derived.Test.YtkobjbmjefkmgaaDoorLxqC
import Derived.Test.YtkobjbmjefkmgaaDoorShelf
import Derived.Test.YtkobjbmjefkmgaaDoorLib
import Derived.BigQuiet
import Derived.IntWalk
namespace Go.Proofs.YtkobjbmjefkmgaaDoor
open Go.ChangeShapes Go.WideShapes Go.ChangeAt Go.RowKit K L14
set_option linter.unusedVariables false

/-- What the library's variables hold, of which the program's calls want something. -/
def LxI (w : World) : Prop := (∃ m, w.cell? ⟨0, 0, none⟩ = some (.int .i64 m)) ∧ (∃ te pe, w.cell? ⟨3, 0, none⟩ = some (.iface te pe))
theorem LxI.below {w w' : World} (h : LxI w) (k : Below w.heap.size w w') : LxI w' := by
  obtain ⟨⟨m, h1⟩, ⟨t1, p1, h2⟩⟩ := h
  exact ⟨⟨m, (k.cell (p := ⟨0, 0, none⟩) (World.block_lt_of_cell? w _ h1)).trans h1⟩, ⟨t1, p1, (k.cell (p := ⟨3, 0, none⟩) (World.block_lt_of_cell? w _ h2)).trans h2⟩⟩
/-- What two digits are answered as. -/
def PxPost (x y : UInt8) (w : World) (e : Ending) (w' : World) : Prop :=
  (match hex2 x.toNat y.toNat with | some v => e = .returned (.tuple #[.int .u64 (v : Nat), .nilIface]) | none => ∃ t p, e = .returned (.tuple #[.int .u64 0, .iface t p])) ∧ Below w.heap.size w w'
set_option maxHeartbeats 1000000 in
set_option maxRecDepth 100000 in
theorem pu16_walk (x y : UInt8) (w : World) (T : LxI w) : Calls Tryd.prog 76 #[.string (bs [x, y]), .int .i64 16, .int .i64 8] w (PxPost x y w) := by
  have HI := hexint_walk x y w
  unfold HxV at HI
  unfold PxPost
  have hln : (bs [x, y]).size ≤ 281474976710656 := by rw [bs_size]; simp
  cases hx : hex2 x.toNat y.toNat with
  | some v =>
    rw [hx] at HI
    have H := Lib.hid HI
    clear HI hx T
    generalize bs [x, y] = S at *
    go_enter Tryd.func76, Tryd.ntmps76
    go_wp2_with fail
    refine H.out.mono ?_
    rintro e w1 ⟨rfl, b1⟩
    go_wp2
    go_ret2
    exact ⟨rfl, b1⟩
  | none =>
    rw [hx] at HI
    have H := Lib.hid HI
    have HT := Lib.hid (fun w1 (b : Below w.heap.size w w1) => (LxI.below T b).2)
    have hE := fun (ev : Value) (w1 : World) hv hev => AnyPu.strconv_toError_syntax (P := Tryd.prog) (ρ := Tryd.laysPu14_ren) { Tryd.laysPu14 with } ⟨#[80, 97, 114, 115, 101, 85, 105, 110, 116]⟩ (bs [x, y]) 16 8 ev w1 hln hv hev
    have HE := Lib.hid hE
    clear HI hx T hE
    generalize bs [x, y] = S at *
    go_enter Tryd.func76, Tryd.ntmps76
    go_wp2_with fail
    refine H.out.mono ?_
    rintro e w1 ⟨rfl, b1⟩
    obtain ⟨te, pe, hv⟩ := HT.out _ b1
    go_wp2_with fail
    refine (HE.out _ _ hv (.inr ⟨_, _, rfl⟩)).mono ?_
    rintro e w2 ⟨N, rfl, -, -, b2⟩
    go_wp2
    go_ret2
    exact ⟨⟨_, _, rfl⟩, b1.trans (b2.mono b1.size)⟩
theorem lx_dr {B : Nat} {a b : World} (h : Below B a b) (n : Nat) : Below B a (b.drewN n) := ⟨h.os, h.tape, h.output, h.size, h.block⟩
/-- What hexByte answers. -/
def hxB (s : List UInt8) : Option (UInt8 × List UInt8) := match s with | x :: y :: r => (hex2 x.toNat y.toNat).map fun v => (UInt8.ofNat v, r) | _ => none
def HbPost (o : Option (UInt8 × List UInt8)) (w : World) (e : Ending) (w' : World) : Prop :=
  (e = .returned (match o with | some (b, r) => .tuple #[.int .u8 (b.toNat : Nat), .string (bs r), .bool true] | none => .tuple #[.int .u8 0, .string (bs []), .bool false])) ∧ Below w.heap.size w w'
theorem hex2_le {c d v : Nat} (h : hex2 c d = some v) : v ≤ 255 := by
  unfold hex2 at h
  cases hc : nib c with
  | none => rw [hc] at h; cases h
  | some a =>
    cases hd : nib d with
    | none => rw [hc, hd] at h; cases h
    | some b =>
      rw [hc, hd] at h
      have h1 := nib_lt hc
      have h2 := nib_lt hd
      injection h with h; omega
set_option maxHeartbeats 1000000 in
set_option maxRecDepth 100000 in
theorem hexbyte_walk (s : List UInt8) (hs : s.length ≤ 140737488351232) (w : World) (T : LxI w) : Calls Tryd.prog 70 #[.string (bs s)] w (HbPost (hxB s) w) := by
  match s, hs with
  | [], _ =>
    go_enter Tryd.func70, Tryd.ntmps70
    go_wp2
    go_ret3
    exact ⟨rfl, Below.refl _ _⟩
  | [x], _ =>
    have hl : ([x] : List UInt8).length = 1 := rfl
    have HP := Lib.hid (show hxB [x] = none from rfl)
    rw [HP.out]
    clear HP
    generalize ([x] : List UInt8) = S at *
    go_enter Tryd.func70, Tryd.ntmps70
    go_wp2
    go_ret3
    exact ⟨rfl, Below.refl _ _⟩
  | x :: y :: r, hs =>
    have H := pu16_walk x y w T
    unfold PxPost at H
    have hl0 : (x :: y :: r).length = r.length + 2 := rfl
    have hl1 : ¬ (((x :: y :: r).length : Nat) : Int) < 2 := by omega
    have hl2 : 2 ≤ (x :: y :: r).length := by omega
    have ht : (x :: y :: r).take 2 = [x, y] := rfl
    have hd : (x :: y :: r).drop 2 = r := rfl
    cases hx : hex2 x.toNat y.toNat with
    | some v =>
      rw [hx] at H
      have hv := hex2_le hx
      have hv2 : ((v : Nat) : Int) ≤ 255 := by omega
      have HV := Lib.hid (show (UInt8.ofNat v).toNat = v by simp; omega)
      have HP := Lib.hid (show hxB (x :: y :: r) = some (UInt8.ofNat v, r) by simp only [hxB, hx]; rfl)
      rw [HP.out]
      have HC := Lib.hid H
      have HT2 := Lib.hid ht
      have HD2 := Lib.hid hd
      clear H hx HP ht hd hl0
      generalize x :: y :: r = S at *
      go_enter Tryd.func70, Tryd.ntmps70
      go_wp2_with fail
      rw [HT2.out]
      refine HC.out.mono ?_
      rintro e w1 ⟨rfl, b1⟩
      have B1 := Lib.hid b1
      clear b1
      go_wp2_with fail
      go_quiet (fail)
      go_wp2
      go_ret3
      unfold HbPost
      refine ⟨?_, ?_⟩
      · rw [HD2.out]
        simp only [HV.out]
        rfl
      · exact lx_dr B1.out _
    | none =>
      rw [hx] at H
      have HP := Lib.hid (show hxB (x :: y :: r) = none by simp only [hxB, hx]; rfl)
      rw [HP.out]
      have HC := Lib.hid H
      have HT2 := Lib.hid ht
      clear H hx HP ht hd hl0
      generalize x :: y :: r = S at *
      go_enter Tryd.func70, Tryd.ntmps70
      go_wp2_with fail
      rw [HT2.out]
      refine HC.out.mono ?_
      rintro e w1 ⟨⟨tt, pp, rfl⟩, b1⟩
      go_wp2
      go_ret3
      exact ⟨rfl, b1⟩
/-- What escaped answers. -/
def escP (s : List UInt8) : Option (UInt8 × List UInt8) := (esc s).map fun y => (y.1, s.drop y.2)
theorem escP_x (t : List UInt8) : escP (120 :: t) = hxB t := by
  match t with
  | [] => rfl
  | [x] => rfl
  | x :: y :: r =>
    have e : esc (120 :: x :: y :: r) = (match nib x.toNat, nib y.toNat with | some a, some b => some (UInt8.ofNat (a * 16 + b), 3) | _, _ => none) := rfl
    unfold escP
    rw [e]
    simp only [hxB, hex2]
    cases nib x.toNat with
    | none => rfl
    | some a => cases nib y.toNat <;> rfl
theorem escP_no {c : UInt8} {t : List UInt8} (h1 : ¬ c = 34) (h2 : ¬ c = 92) (h3 : ¬ c = 110) (h4 : ¬ c = 116) (h5 : ¬ c = 120) : escP (c :: t) = none := by
  unfold escP
  simp only [esc]
  rw [if_neg (by simp [h1, h2]), if_neg h3, if_neg h4, if_neg h5]; rfl
theorem byte_ne {c : UInt8} {n : Nat} (hn : n < 256) (h : ¬ c = UInt8.ofNat n) : (((c.toNat : Nat) : Int) == ((n : Nat) : Int)) = false := by
  rw [beq_eq_false_iff_ne]
  intro e
  apply h
  have : c.toNat = n := by omega
  rw [← this]; simp
set_option maxHeartbeats 1000000 in
set_option maxRecDepth 100000 in
theorem escaped_walk14 (s : List UInt8) (hs : s.length ≤ 140737488351232) (w : World) (T : LxI w) : Calls Tryd.prog 58 #[.string (bs s)] w (HbPost (escP s) w) := by
  cases s with
  | nil =>
    go_enter Tryd.func58, Tryd.ntmps58
    go_wp2
    go_ret3
    exact ⟨rfl, Below.refl _ _⟩
  | cons c t =>
    have hby : byt (c :: t) 0 = c.toNat := rfl
    have hne : (c :: t).isEmpty = false := rfl
    have hpos : 0 < (c :: t).length := by simp
    by_cases c1 : c = 34
    · have HX := Lib.hid (show escP (c :: t) = some (34, t) by subst c1; rfl)
      have hb : byt (c :: t) 0 = 34 := by rw [hby, c1]; rfl
      rw [HX.out]
      have HDR := Lib.hid (show (c :: t).tail = t from rfl)
      have hpos1 : 1 ≤ (c :: t).length := by simp
      clear c1 hby
      generalize c :: t = s at *
      go_enter Tryd.func58, Tryd.ntmps58
      go_wp2_with fail
      go_quiet (fail)
      go_wp2
      go_ret3
      exact ⟨by rw [HDR.out]; rfl, lx_dr (Below.refl _ _) _⟩
    by_cases c2 : c = 92
    · have HX := Lib.hid (show escP (c :: t) = some (92, t) by subst c2; rfl)
      have hb : byt (c :: t) 0 = 92 := by rw [hby, c2]; rfl
      rw [HX.out]
      have HDR := Lib.hid (show (c :: t).tail = t from rfl)
      have hpos1 : 1 ≤ (c :: t).length := by simp
      clear c1 c2 hby
      generalize c :: t = s at *
      go_enter Tryd.func58, Tryd.ntmps58
      go_wp2_with fail
      go_quiet (fail)
      go_wp2
      go_ret3
      exact ⟨by rw [HDR.out]; rfl, lx_dr (Below.refl _ _) _⟩
    by_cases c3 : c = 110
    · have HX := Lib.hid (show escP (c :: t) = some (10, t) by subst c3; rfl)
      have hb : byt (c :: t) 0 = 110 := by rw [hby, c3]; rfl
      rw [HX.out]
      have HDR := Lib.hid (show (c :: t).tail = t from rfl)
      have hpos1 : 1 ≤ (c :: t).length := by simp
      clear c1 c2 c3 hby
      generalize c :: t = s at *
      go_enter Tryd.func58, Tryd.ntmps58
      go_wp2_with fail
      go_quiet (fail)
      go_wp2
      go_ret3
      exact ⟨by rw [HDR.out]; rfl, lx_dr (Below.refl _ _) _⟩
    by_cases c4 : c = 116
    · have HX := Lib.hid (show escP (c :: t) = some (9, t) by subst c4; rfl)
      have hb : byt (c :: t) 0 = 116 := by rw [hby, c4]; rfl
      rw [HX.out]
      have HDR := Lib.hid (show (c :: t).tail = t from rfl)
      have hpos1 : 1 ≤ (c :: t).length := by simp
      clear c1 c2 c3 c4 hby
      generalize c :: t = s at *
      go_enter Tryd.func58, Tryd.ntmps58
      go_wp2_with fail
      go_quiet (fail)
      go_wp2
      go_ret3
      exact ⟨by rw [HDR.out]; rfl, lx_dr (Below.refl _ _) _⟩
    by_cases c5 : c = 120
    · have hx := hexbyte_walk t (by simp at hs; omega) w T
      have HX := Lib.hid (show escP (c :: t) = hxB t by subst c5; exact escP_x t)
      have hb : byt (c :: t) 0 = 120 := by rw [hby, c5]; rfl
      rw [HX.out]
      unfold HbPost at hx ⊢
      have HC := Lib.hid hx
      have HDR := Lib.hid (show (c :: t).tail = t from rfl)
      have hpos1 : 1 ≤ (c :: t).length := by simp
      clear c1 c2 c3 c4 c5 hby hx HX
      generalize c :: t = s at *
      generalize hxB t = ob at *
      cases ob with
      | none =>
        go_enter Tryd.func58, Tryd.ntmps58
        go_wp2_with fail
        rw [HDR.out]
        refine HC.out.mono ?_
        rintro e w1 ⟨rfl, b1⟩
        go_wp2
        go_ret3
        exact ⟨rfl, b1⟩
      | some y =>
        obtain ⟨b, r⟩ := y
        go_enter Tryd.func58, Tryd.ntmps58
        go_wp2_with fail
        rw [HDR.out]
        refine HC.out.mono ?_
        rintro e w1 ⟨rfl, b1⟩
        go_wp2
        go_ret3
        exact ⟨rfl, b1⟩
    · have HX := Lib.hid (escP_no (t := t) c1 c2 c3 c4 c5)
      rw [HX.out]
      have e1 : (((byt (c :: t) 0 : Nat) : Int) == 34) = false := by rw [hby]; exact byte_ne (n := 34) (by decide) c1
      have e2 : (((byt (c :: t) 0 : Nat) : Int) == 92) = false := by rw [hby]; exact byte_ne (n := 92) (by decide) c2
      have e3 : (((byt (c :: t) 0 : Nat) : Int) == 110) = false := by rw [hby]; exact byte_ne (n := 110) (by decide) c3
      have e4 : (((byt (c :: t) 0 : Nat) : Int) == 116) = false := by rw [hby]; exact byte_ne (n := 116) (by decide) c4
      have e5 : (((byt (c :: t) 0 : Nat) : Int) == 120) = false := by rw [hby]; exact byte_ne (n := 120) (by decide) c5
      clear c1 c2 c3 c4 c5 hby HX T
      generalize c :: t = s at *
      go_enter Tryd.func58, Tryd.ntmps58
      go_wp2
      go_ret3
      exact ⟨rfl, Below.refl _ _⟩
end Go.Proofs.YtkobjbmjefkmgaaDoor
