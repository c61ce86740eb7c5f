/- Numbers and texts that are written one behind the other are read back so, whole, with nothing left: gonglaw01.OctetBack answers true at every input, and its arguments read as before. No condition. -/
import Derived.Test.YtkcgddcdgneenaaOctG
import Derived.Test.YtkcgddcdgneenaaOctS
import Derived.Test.YtkcgddcdgneenaaOctW
import Derived.Test.YtkcgddcdgneenaaOctAsk
import Derived.Test.YtkcgddcdgneenaaBook
import Derived.Deep.DeepCutAuto
import Derived.Deep.CutBlock
import Derived.Deep.RegionHeld3
namespace Go.Proofs.Ytkcgddcdgneenaa
open Go.ChangeShapes Go.WideShapes Go.ChangeAt Go.RowKit P1 K
open Go.ChangeMaps (open_string shut_string)
set_option linter.unusedVariables false

def B1 (w : World) (N : Nat → List UInt8) (I : Nat) (vs vi : Value) (wr : World) : Prop :=
  ∃ i : Nat, i ≤ I ∧ vs = .string (bs (cat N i)) ∧ vi = .int .i64 i ∧ Below w.heap.size w wr
def B2 (w : World) (N T : Nat → List UInt8) (I J : Nat) (vs vj : Value) (wr : World) : Prop :=
  ∃ j : Nat, j ≤ J ∧ vs = .string (bs (cat N I ++ cat T j)) ∧ vj = .int .i64 j ∧ Below w.heap.size w wr

/-- The state of the reader while numbers, and texts, are read. -/
def B3 (wc : World) (Bk : Nat) (S : List UInt8) (N : Nat → List UInt8) (I : Nat) (vi : Value) (wr : World) : Prop :=
  ∃ i : Nat, i ≤ I ∧ vi = .int .i64 i ∧ Kp [Bk] wc wr ∧ Rdr wr Bk 58 S (N i).length 0

set_option maxHeartbeats 2000000 in
set_option maxRecDepth 100000 in
theorem octetBack_walk (ao : Option Addr) (len cap : Nat) (ns : Nat → Int) (bo : Option Addr) (mlen mcap : Nat) (ss : Nat → List UInt8) (w : World) (ha : Nums .i64 w ao len ns) (hb : Strs w bo mlen ss) :
    Calls Try.prog 5 #[.slice ao len cap, .slice bo mlen mcap] w fun e w' => e = .returned (.bool true) ∧ Below w.heap.size w w' := by
  have HA := Lib.hid ha; have HB := Lib.hid hb
  clear ha hb
  have hN : ∀ i, (cat (itemN ns) i).length ≤ i * 17 := cat_length _ _ (itemN_len ns)
  have HN := Lib.hid hN; clear hN
  go_enter Try.func5, Try.ntmps5
  go_wp2_with fail
  refine (works_walk _).mono ?_
  rintro e w1 ⟨rfl, hb1⟩
  go_upto_block 0 with (fail)
  go_cut [5] (fun vs wx => vs = .string (bs (cat (itemN ns) (min len 30))) ∧ Below w.heap.size w wx)
  case first =>
   go_wp2
   go_loopw [5, 6] (fun vs vi wr => B1 w (itemN ns) (min len 30) vs vi wr) (fun vs vi wr => 30 - (intOf vi).toNat)
   case atStart => exact ⟨0, Nat.zero_le _, rfl, rfl, hb1⟩
   case round =>
     obtain ⟨i, hi, rfl, rfl, hbr⟩ := hrel
     have hcl := HN.out i
     obtain ⟨hlen, hel, hbd⟩ := HA.out
     by_cases hlt : i < len ∧ i < 30
     · obtain ⟨hlt, h30⟩ := hlt
       rcases hel with h | ⟨b, off, rfl, hrow⟩
       · omega
       · have hrow' := hrow.below hbr (Nat.le_refl _)
         have hcell := hrow'.2 i hlt
         simp only [] at hcell
         have hand := bits_low63 (ns i)
         have hwf := bounds_i64 (hbd i)
         have hlow := low63_lt (ns i)
         have hgl := grp_length (low63 (ns i))
         have hpl := pad_length 8 (low63 (ns i))
         have hcat : cat (itemN ns) (i + 1) = cat (itemN ns) i ++ (grp (low63 (ns i)) ++ pad 8 (low63 (ns i))) := rfl
         have HC := Lib.hid hcat
         clear hbd hrow hrow' hcat
         generalize hcq : cat (itemN ns) i = L at *
         generalize ns i = x at *
         generalize low63 x = n at *
         clear hcq
         go_wp2_with fail
         refine (octGroups_nat n hlow _).mono ?_
         rintro e x1 ⟨rfl, k1⟩
         have hcell1 : x1.cell? ⟨b, off + i, none⟩ = some (.int .i64 x) := (k1.cell (p := ⟨b, off + i, none⟩) (World.block_lt_of_cell? _ _ hcell)).trans hcell
         have hb1' := hbr.trans (k1.mono hbr.size)
         clear hcell k1
         go_wp2_with fail
         refine (octWide8 n hlow _).mono ?_
         rintro e x2 ⟨rfl, k2⟩
         have hb2' := hb1'.trans (k2.mono hb1'.size)
         clear hb1' k2 hbr
         go_wp2
         go_roundw
         case measure => simp [intOf]; omega
         case rel => exact ⟨i + 1, by omega, by rw [HC.out], by simp, hb2'⟩
     · have hI : i = min len 30 := by omega
       have hend : (i < len ∧ (30 : Int) ≤ i) ∨ (len : Int) ≤ i := by omega
       have HL := Lib.hid (show cat (itemN ns) i = cat (itemN ns) (min len 30) by rw [hI])
       clear hlt hel hbd hI hi
       generalize hcq : cat (itemN ns) i = L at *
       rcases hend with ⟨he1, he2⟩ | he1
       all_goals
         go_wp2_with fail
         go_meet
         exact ⟨by rw [HL.out], hbr⟩
  case rest =>
   obtain ⟨rfl, hbx⟩ := hcut
   have HX := Lib.hid (HN.out (min len 30))
   have HT := Lib.hid (cat_length (itemT ss) 209 (itemT_len ss))
   go_upto_block 2 with (fail)
   go_cut [5] (fun vs wx => vs = .string (bs (cat (itemN ns) (min len 30) ++ cat (itemT ss) (min mlen 30))) ∧ Below w.heap.size w wx)
   case first =>
    go_wp2
    go_loopw [5, 11] (fun vs vi wr => B2 w (itemN ns) (itemT ss) (min len 30) (min mlen 30) vs vi wr) (fun vs vi wr => 30 - (intOf vi).toNat)
    case atStart => exact ⟨0, Nat.zero_le _, by simp [cat], rfl, hbx⟩
    case round =>
     obtain ⟨j, hj, rfl, rfl, hbr⟩ := hrel
     have hcn := HX.out
     have hct := HT.out j
     obtain ⟨hlen, hel, hbd⟩ := HB.out
     by_cases hlt : j < mlen ∧ j < 30
     · obtain ⟨hlt, h30⟩ := hlt
       rcases hel with h | ⟨b, off, rfl, hrow⟩
       · omega
       · have hrow' := hrow.below hbr (Nat.le_refl _)
         have hcell := hrow'.2 j hlt
         simp only [] at hcell
         have hsl := hbd j
         have hcat : cat (itemN ns) (min len 30) ++ cat (itemT ss) (j + 1) = (cat (itemN ns) (min len 30) ++ cat (itemT ss) j) ++ (grp ((ss j).take 200).length ++ (ss j).take 200) := by rw [List.append_assoc]; rfl
         have HC := Lib.hid hcat
         have hgl := grp_length ((ss j).take 200).length
         have htl : ((ss j).take 200).length ≤ 200 := by rw [List.length_take]; omega
         have hll : (cat (itemN ns) (min len 30) ++ cat (itemT ss) j).length ≤ 7000 := by rw [List.length_append]; omega
         clear hbd hrow hrow' hcat hcn hct
         generalize hcq : cat (itemN ns) (min len 30) ++ cat (itemT ss) j = L at *
         clear hcq
         have Hh := Lib.hid htl
         generalize ss j = t at *
         go_wp2_with fail
         refine (cut_walk t 200 hsl (by omega) _).mono ?_
         rintro e x1 ⟨rfl, rfl⟩
         generalize t.take 200 = u at *
         go_wp2_with fail
         refine (octText_bs u (by omega) _).mono ?_
         rintro e x2 ⟨rfl, k2⟩
         have hb2' := hbr.trans (k2.mono hbr.size)
         clear hcell k2 hbr
         go_wp2
         go_roundw
         case measure => simp [intOf]; omega
         case rel => exact ⟨j + 1, by omega, by rw [HC.out], by simp, hb2'⟩
     · have hI : j = min mlen 30 := by omega
       have hend : (j < mlen ∧ (30 : Int) ≤ j) ∨ (mlen : Int) ≤ j := by omega
       have HL := Lib.hid (show cat (itemT ss) j = cat (itemT ss) (min mlen 30) by rw [hI])
       clear hlt hel hbd hI hj hcn hct
       generalize hcq : cat (itemT ss) j = L at *
       rcases hend with ⟨he1, he2⟩ | he1
       all_goals
         go_wp2_with fail
         go_meet
         exact ⟨by rw [HL.out], hbr⟩
   case rest =>
    obtain ⟨rfl, hbx2⟩ := hcut
    obtain ⟨wd, rfl⟩ : ∃ x : World, x = wc := ⟨_, rfl⟩
    have HS := Lib.hid (show (cat (itemN ns) (min len 30) ++ cat (itemT ss) (min mlen 30)).length ≤ 7000 by have := HX.out; have := HT.out (min mlen 30); rw [List.length_append]; omega)
    have HSN := Lib.hid (cat_atN ns (cat (itemT ss) (min mlen 30)) (min len 30))
    have HST := Lib.hid (cat_atT (cat (itemN ns) (min len 30)) ss (min mlen 30))
    have hp0 : (cat (itemN ns) 0).length = 0 := rfl
    obtain ⟨S, hS⟩ : ∃ S, cat (itemN ns) (min len 30) ++ cat (itemT ss) (min mlen 30) = S := ⟨_, rfl⟩
    rw [hS] at HS HSN HST ⊢
    have HQ := Lib.hid hS
    clear hS hbx
    go_wp2_with fail
    refine (read_walk S wd).mono ?_
    rintro e w2 ⟨rfl, kp2, hz2, hr2⟩
    rw [← hp0] at hr2
    have k0 := kp2.mono (S' := [wd.heap.size]) (by simp)
    have hBw : w.heap.size ≤ wd.heap.size := hbx2.size
    clear hp0 hz2 kp2
    generalize hBk : wd.heap.size = Bk at *
    go_upto_block 4 with (fail)
    go_cut [13] (fun _ wx => Kp [Bk] wd wx ∧ Rdr wx Bk 58 S (cat (itemN ns) (min len 30)).length 0)
    case first =>
     go_wp2
     go_loopw [13] (fun vi wr => B3 wd Bk S (cat (itemN ns)) (min len 30) vi wr) (fun vi wr => 30 - (intOf vi).toNat)
     case atStart => exact ⟨0, Nat.zero_le _, rfl, k0, hr2⟩
     case round =>
      obtain ⟨i, hi, rfl, kr, hrr⟩ := hrel
      obtain ⟨hlen, hel, hbd⟩ := HA.out
      clear hr2 k0
      by_cases hlt : i < len ∧ i < 30
      · obtain ⟨hlt, h30⟩ := hlt
        rcases hel with h | ⟨b, off, rfl, hrow⟩
        · omega
        · have hne : b ≠ Bk := by have := hrow.1; omega
          have hrow1 := hrow.below hbx2 (Nat.le_refl _)
          have hrow' : Row wr b off len _ := hrow1.kept (kr.block b hrow1.1 (by simp; exact hne)) kr.size
          have hcell := hrow'.2 i hlt
          simp only [] at hcell
          have hand := bits_low63 (ns i)
          have hlow := low63_lt (ns i)
          obtain ⟨B, hsp⟩ := HSN.out i (by omega)
          have hsl := HS.out
          have hg := rdG_at (cat (itemN ns) i) (pad 8 (low63 (ns i)) ++ B) (low63 (ns i)) 9223372036854775807 hlow (by omega)
          have hw := rdW_at (cat (itemN ns) i ++ grp (low63 (ns i))) B (low63 (ns i)) hlow
          rw [← hsp] at hg
          rw [List.append_assoc, ← hsp] at hw
          have hl1 : (cat (itemN ns) i).length ≤ S.length := by rw [hsp]; simp
          have hl2 : (cat (itemN ns) i ++ grp (low63 (ns i))).length ≤ S.length := by rw [hsp]; simp
          have hl3 : (cat (itemN ns) (i + 1)) = (cat (itemN ns) i ++ grp (low63 (ns i))) ++ pad 8 (low63 (ns i)) := by rw [List.append_assoc]; rfl
          have hG := rGroups_walk Bk 58 S (cat (itemN ns) i).length 0 9223372036854775807 ⟨by omega, hl1, by omega, by omega⟩ (by omega) (by omega)
          have hW := rWide_walk Bk 58 S (cat (itemN ns) i ++ grp (low63 (ns i))).length 0 8 ⟨by omega, hl2, by omega, by omega⟩
          rw [hg] at hG
          rw [hw, ← hl3] at hW
          have HG := Lib.hid hG; have HW := Lib.hid hW; have HR := Lib.hid hrr
          clear hG hW hg hw hl3 hl1 hl2 hsp hbd hrow hrow1 hrow' hrr hsl
          generalize hx : ns i = x at *
          clear hx
          generalize low63 x = n at *
          go_wp2_with fail
          refine (HG.out wr HR.out).mono ?_
          rintro e x1 ⟨rfl, k1, t1⟩
          go_wp2_with fail
          refine (HW.out x1 t1).mono ?_
          rintro e x2 ⟨rfl, k2, t2⟩
          have KK := (kr.trans k1).trans k2
          clear hcell k1 k2 t1 kr
          go_wp2
          go_roundw
          case measure => simp [intOf]; omega
          case rel => exact ⟨i + 1, by omega, by simp, KK, t2⟩
      · have hI : i = min len 30 := by omega
        have hend : (i < len ∧ (30 : Int) ≤ i) ∨ (len : Int) ≤ i := by omega
        rw [hI] at hrr
        have HR := Lib.hid hrr
        clear hlt hel hbd hI hi hrr
        rcases hend with ⟨he1, he2⟩ | he1
        all_goals
          go_wp2_with fail
          go_meet
          exact ⟨kr, HR.out⟩
    case rest =>
     obtain ⟨k3, hr3⟩ := hcut
     have hm0 : (cat (itemN ns) (min len 30)).length = (cat (itemN ns) (min len 30) ++ cat (itemT ss) 0).length := by simp [cat]
     rw [hm0] at hr3
     clear hm0 hr2 k0
     go_upto_block 6 with (fail)
     go_cut [15] (fun _ wx => Kp [Bk] wd wx ∧ Rdr wx Bk 58 S S.length 0)
     case first =>
      go_wp2
      go_loopw [15] (fun vi wr => B3 wd Bk S (fun j => cat (itemN ns) (min len 30) ++ cat (itemT ss) j) (min mlen 30) vi wr) (fun vi wr => 30 - (intOf vi).toNat)
      case atStart => exact ⟨0, Nat.zero_le _, rfl, k3, hr3⟩
      case round =>
       obtain ⟨j, hj, rfl, kr, hrr⟩ := hrel
       obtain ⟨hlen, hel, hbd⟩ := HB.out
       clear hr3 k3
       by_cases hlt : j < mlen ∧ j < 30
       · obtain ⟨hlt, h30⟩ := hlt
         rcases hel with h | ⟨b, off, rfl, hrow⟩
         · omega
         · have hne : b ≠ Bk := by have := hrow.1; omega
           have hrow1 := hrow.below hbx2 (Nat.le_refl _)
           have hrow' : Row wr b off mlen _ := hrow1.kept (kr.block b hrow1.1 (by simp; exact hne)) kr.size
           have hcell := hrow'.2 j hlt
           simp only [] at hcell
           have hsl := hbd j
           obtain ⟨B, hsp⟩ := HST.out j (by omega)
           have hsz := HS.out
           have hul : ((ss j).take 200).length ≤ 200 := by rw [List.length_take]; omega
           have hg := rdT_at (cat (itemN ns) (min len 30) ++ cat (itemT ss) j) B ((ss j).take 200) 200 (by omega) (by omega)
           rw [← hsp] at hg
           have hl1 : (cat (itemN ns) (min len 30) ++ cat (itemT ss) j).length ≤ S.length := by rw [hsp]; simp
           have hl3 : cat (itemN ns) (min len 30) ++ cat (itemT ss) (j + 1) = (cat (itemN ns) (min len 30) ++ cat (itemT ss) j) ++ (grp ((ss j).take 200).length ++ (ss j).take 200) := by rw [List.append_assoc]; rfl
           have hT := rText_walk Bk 58 S (cat (itemN ns) (min len 30) ++ cat (itemT ss) j).length 0 200 ⟨by omega, hl1, by omega, by omega⟩ (by omega) (by omega)
           rw [hg, ← hl3] at hT
           have HT2 := Lib.hid hT; have HR := Lib.hid hrr
           clear hT hg hl3 hl1 hsp hbd hrow hrow1 hrow' hrr hsz hul
           generalize ss j = t at *
           go_wp2_with fail
           go_region_held3 (fun w' => w'.cell? ⟨b, off + j, none⟩ = some (.string (bs t))) (first | exact hcell | exact z1 | go_keep)
             (first | (go_at_call 25; refine (HT2.out _ ?_).mono ?_; exact HR.out; rintro e x1 ⟨rfl, k1, t1⟩; have z1 := k1.cell hcell (by simp; exact hne)) | (go_at_call 22; refine (cut_walk t 200 hsl (by omega) _).mono ?_; rintro e x2 ⟨rfl, rfl⟩))
           have KK := kr.trans k1.ofDrew
           go_wp2
           go_roundw
           case measure => simp [intOf]; omega
           case rel => exact ⟨j + 1, by omega, by simp, KK, t1⟩
       · have hI : j = min mlen 30 := by omega
         have hend : (j < mlen ∧ (30 : Int) ≤ j) ∨ (mlen : Int) ≤ j := by omega
         rw [hI] at hrr
         simp only [] at hrr
         rw [HQ.out] at hrr
         have HR := Lib.hid hrr
         clear hlt hel hbd hI hj hrr
         rcases hend with ⟨he1, he2⟩ | he1
         all_goals
           go_wp2_with fail
           go_meet
           exact ⟨kr, HR.out⟩
     case rest =>
      obtain ⟨k4, hr4⟩ := hcut
      obtain ⟨we, rfl⟩ : ∃ x : World, x = wc := ⟨_, rfl⟩
      have hsz := HS.out
      have ok : Ok S S.length 0 := ⟨by omega, Nat.le_refl _, by omega, by omega⟩
      have hD := rDone_walk Bk 58 S S.length 0 ok
      rw [show rdD S S.length 0 = 0 by simp [rdD]] at hD
      have hL := left_walk Bk 58 S S.length 0 ok
      rw [show S.length - S.length = 0 by omega] at hL
      have HD := Lib.hid hD; have HL := Lib.hid hL; have HR := Lib.hid hr4
      have KB : ∀ m, Below w.heap.size w (we.drewN m) := fun m => hbx2.trans ((k4.drewN m).below (by omega) (by intro x hx; simp at hx; omega))
      clear hD hL hr4 hr3
      go_wp2_with fail
      refine (HL.out _ HR.out).mono ?_
      rintro e y1 ⟨rfl, n1, rfl⟩
      go_wp2_with fail
      refine (code_walk Bk 58 S S.length 0 _ ?_).mono ?_
      exact HR.out
      rintro e y2 ⟨rfl, rfl⟩
      go_wp2_with fail
      refine (HD.out _ ?_).mono ?_
      exact HR.out
      rintro e y3 ⟨rfl, n3, rfl⟩
      go_wp2
      go_ret
      exact ⟨rfl, KB _⟩

namespace octetBack
theorem own : ownKnob Try.prog.godebug = none := by kernel_rfl
theorem laidOut : laidOutB Try.prog = true := by kernel_rfl
theorem walk (v : Value) {B : Nat} {w : World} (g : Rdg Try.prog w 41 v.cells.toList) (ok : Value.okWide Try.prog w .any B 41 v) (u : Value) (gu : Rdg Try.prog w 42 u.cells.toList) (oku : Value.okWide Try.prog w .any B 42 u) (w' : World) (hw : w = w') :
    Calls Try.prog 5 #[v, u] w fun e w' => e = .returned (.bool true) ∧ Below w.heap.size w w' := by
  obtain ⟨ao, len, cap, rfl⟩ := okWide_slice Try.underlying41 ok
  obtain ⟨bo, mlen, mcap, rfl⟩ := okWide_slice Try.underlying42 oku
  obtain ⟨ns, ha⟩ := Rdg.nums g Try.underlying41 Try.underlying3 (by kernel_rfl) (by rw [show Try.prog.bytesOf 3 = 8 by kernel_rfl]; omega) (by decide)
  obtain ⟨ss, hb⟩ := Rdg.strs gu Try.underlying42 Try.underlying9 (by kernel_rfl) (by rw [show Try.prog.bytesOf 9 = 16 by kernel_rfl]; omega)
  exact octetBack_walk ao len cap ns bo mlen mcap ss w ha hb

/-! ### The row's step -/
set_option maxRecDepth 100000 in
theorem lifted (os : Os) (started : os.Started) (H : Type) (enc : TypeId × Value → H) :
    ReturnsInHanded {} Try.checked os 5 .any (Rows.octetBackSpec.pre6 enc Try.prog Try.f5 Rows.octetBackRow.domain false) (Rows.octetBackSpec.post enc Try.prog Try.f5 false true false false) := by
  refine returnsInHanded_of_change_sized (C := Try.checked) own started (by kernel_rfl) Try.func5
    (ChangeSpec.witness6 (enc := enc) (C := Try.checked) false ⟨#[], #[.slice none 0 0, .slice none 0 0], []⟩ 8 (by kernel_rfl) (by kernel_rfl) (by kernel_rfl) (by kernel_rfl)) ?_
  intro W base args ds gs before hval0 hW hcnd hsz0 _
  have hval : ∀ (j : Nat) t v, Try.f5.params[j]? = some t → args[j]? = some v → Value.okWide Try.prog W .any base t v := hval0
  have hW' := hW
  obtain ⟨p, q, hA0, hV, rfl, hfz, hnd⟩ := hW
  have hA : DataW.TrodAll enc Try.prog W 0 (fun _ => true) true Try.f5.params.toList args.toList ds p := hA0
  have hsz : (DataW.weightsEach Try.prog (Try.f5.params.toList ++ Rows.octetBackSpec.plain.varTypes Try.prog) (ds ++ gs)).all (· ≤ reachBytes) = true := hsz0
  rw [Try.params5] at hA hval hsz
  obtain ⟨v0, vs0, d0, ds0, p0, q0, hargs, rfl, rfl, h0, r0⟩ := trodAll_cons hA
  obtain ⟨v1, vs1, d1, ds1, p1, q1, rfl, rfl, rfl, h1, r1⟩ := trodAll_cons r0
  obtain ⟨rfl, rfl, rfl⟩ := trodAll_nil r1
  obtain rfl : args = #[v0, v1] := by cases args; simp_all
  obtain ⟨rfl, rfl⟩ := trodVars_none hV
  have k0 := h0
  have lt0 : ∀ x ∈ p0, x.block < W.heap.size := by obtain ⟨m, hm⟩ := k0; exact DataW.trod_lt m _ _ _ hm
  have ok0 := hval 0 41 v0 rfl rfl
  have g0 := Rdg.of k0 hsz (j := 0) rfl rfl
  have k1 := h1
  have lt1 : ∀ x ∈ p1, x.block < W.heap.size := by obtain ⟨m, hm⟩ := k1; exact DataW.trod_lt m _ _ _ hm
  have ok1 := hval 1 42 v1 rfl rfl
  have g1 := Rdg.of k1 hsz (j := 1) rfl rfl
  clear hA0 hval0 hsz0
  refine (walk v0 g0 ok0 v1 g1 ok1 W rfl).mono fun e W' ⟨he, bel⟩ => ?_
  subst he
  exact ⟨_, rfl, _, _, _, [], _, [], hW', trodAll_mk1 (shut_bool Try.underlying4 _), (trodAll_cons_mk (Below.trod laidOut (by kernel_rfl) (of_decide_eq_true (by kernel_rfl)) k0 bel lt0) (trodAll_cons_mk (Below.trod laidOut (by kernel_rfl) (of_decide_eq_true (by kernel_rfl)) k1 bel lt1) trodAll_mk0)), rfl, bel.frame _, fun h => by cases h⟩

theorem over : Rows.octetBackRow.holds Try.pinned (OpenSpec.ofChange Rows.octetBackSpec) :=
  OpenClaim.holds_of_wide 5 Try.f5 rfl rfl rfl rfl rfl rfl rfl ⟨rfl, rfl, rfl, rfl, rfl⟩ rfl rfl rfl rfl rfl (by kernel_rfl) Try.func5 (by kernel_rfl)
    (of_decide_eq_true (by kernel_rfl)) (by unfold Func.isWrapper; first | (rw [if_pos (by decide +kernel)]; kernel_rfl) | (rw [if_neg (by decide +kernel)]; exact ⟨rfl, rfl⟩))
    (fun os started H enc _ => lifted os started H enc)

theorem proved : Rows.OctetBackSaid := over
#print axioms proved
end octetBack
end Go.Proofs.Ytkcgddcdgneenaa
