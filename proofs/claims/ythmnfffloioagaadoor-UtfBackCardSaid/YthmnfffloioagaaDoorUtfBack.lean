/- Characters' bytes, one behind the other, are UTF-8, and just these characters; what is UTF-8 is written of its characters as it stood: gonglaw04.UtfBack answers true at every input, and its arguments read as before. Its card ties the table of package utf to the program's text. No other condition. -/
import Derived.Test.YthmnfffloioagaaDoorUtfW
import Derived.Test.YthmnfffloioagaaDoorInts
import Derived.Test.YthmnfffloioagaaDoorBook
import Derived.Deep.DeepCutAuto
import Derived.Deep.CutBlock
namespace Go.Proofs.YthmnfffloioagaaDoor
open Go.ChangeShapes Go.WideShapes Go.ChangeAt Go.RowKit K U4
open Go.ChangeMaps (open_string shut_string)
set_option linter.unusedVariables false

/-- The character of a number. -/
def chN (x : Int) : Nat := if 55296 ≤ belowN x 1112064 then (belowN x 1112064 + 2048).toNat else (belowN x 1112064).toNat
theorem chN_isC (x : Int) : isC (chN x) = true := by
  have h := belowN_bounds x 1112064 (by omega)
  unfold chN
  rw [isC_iff]
  by_cases h1 : 55296 ≤ belowN x 1112064
  · rw [if_pos h1]; omega
  · rw [if_neg h1]; omega
theorem char_walk (x : Int) (h0 : -9223372036854775808 ≤ x) (h1 : x ≤ 9223372036854775807) (w : World) :
    Calls Tryd.prog 25 #[.int .i64 x] w fun e w' => e = .returned (.int .i64 (chN x : Nat)) ∧ w = w' := by
  have hB := below_walk x 1112064 h0 h1 (by omega) (by omega) w
  have hb := belowN_bounds x 1112064 (by omega)
  have hc : ((chN x : Nat) : Int) = if 55296 ≤ belowN x 1112064 then belowN x 1112064 + 2048 else belowN x 1112064 := by
    unfold chN
    by_cases h1 : 55296 ≤ belowN x 1112064
    · rw [if_pos h1, if_pos h1]; omega
    · rw [if_neg h1, if_neg h1]; omega
  rw [hc]
  clear hc
  generalize belowN x 1112064 = y at *
  have HB := Lib.hid hB
  obtain ⟨y0, y1⟩ := hb
  clear hB
  by_cases h2 : 55296 ≤ y
  · rw [if_pos h2]
    go_enter Tryd.func25, Tryd.ntmps25
    go_wp2_with fail
    refine HB.out.mono ?_
    rintro e w1 ⟨rfl, rfl⟩
    go_wp2
    go_ret
    exact ⟨rfl, rfl⟩
  · rw [if_neg h2]
    have h2' : y < 55296 := by omega
    clear h2
    go_enter Tryd.func25, Tryd.ntmps25
    go_wp2_with fail
    refine HB.out.mono ?_
    rintro e w1 ⟨rfl, rfl⟩
    go_wp2
    go_ret
    exact ⟨rfl, rfl⟩
def cl (ns : Nat → Int) (i : Nat) : List Nat := (List.range i).map fun j => chN (ns j)
theorem cl_succ (ns : Nat → Int) (i : Nat) : cl ns (i + 1) = cl ns i ++ [chN (ns i)] := by
  unfold cl; rw [List.range_succ, List.map_append]; rfl
theorem cl_all (ns : Nat → Int) (i : Nat) : AllC (cl ns i) := by
  intro c hc
  unfold cl at hc
  obtain ⟨j, _, rfl⟩ := List.mem_map.1 hc
  exact chN_isC _
theorem cl_len (ns : Nat → Int) (i : Nat) : (cl ns i).length = i := by simp [cl]
theorem flat_le (cs : List Nat) : (flat cs).length ≤ 4 * cs.length := by
  induction cs with
  | nil => simp [flat_nil]
  | cons c cs ih =>
    have := lg_pos c
    rw [flat_cons, List.length_append, made_len, List.length_cons]; omega
theorem flat_snoc (cs : List Nat) (c : Nat) : flat (cs ++ [c]) = flat cs ++ made c := by rw [flat_app, flat_cons, flat_nil, List.append_nil]

def UB1 (w : World) (ns : Nat → Int) (I g : Nat) (v5 v6 v7 : Value) (wr : World) : Prop :=
  ∃ i : Nat, i + g = I ∧ v6 = .string (bs (flat (cl ns i))) ∧ v7 = .int .i64 i ∧ OwnI wr w.heap.size 3 v5 (cl ns i) ∧ Below w.heap.size w wr
def UB2 (w : World) (cs : List Nat) (g : Nat) (v6 v92 : Value) (B : Nat) (w0 wr : World) : Prop :=
  ∃ i : Nat, i + g = cs.length ∧ v6 = .string (bs (flat (cs.take i))) ∧ v92 = .int .i64 i ∧ Below w.heap.size w wr ∧ Below B w0 wr
set_option maxHeartbeats 4000000 in
set_option maxRecDepth 100000 in
theorem utfBack_walk (ao : Option Addr) (len cap : Nat) (ns : Nat → Int) (l : List UInt8) (hl : l.length ≤ 140737488351232) (w : World) (ha : Nums .i64 w ao len ns) (ht : Leads w) :
    Calls Tryd.prog 5 #[.slice ao len cap, .string (bs l)] w fun e w' => e = .returned (.bool true) ∧ Below w.heap.size w w' := by
  have HA := Lib.hid ha
  clear ha
  obtain ⟨i0, hi, hz0, hz1, hz2⟩ := info_of int_info
  have HW := Lib.hid (works_walk w ht)
  go_enter Tryd.func5, Tryd.ntmps5
  go_wp2_with fail
  refine HW.out.mono ?_
  rintro e w1 ⟨rfl, hb1⟩
  go_upto_block 0 with (fail)
  go_cut [5, 6] (fun v5 v6 wx => v6 = .string (bs (flat (cl ns (min len 100)))) ∧ OwnI wx w.heap.size 3 v5 (cl ns (min len 100)) ∧ Below w.heap.size w wx)
  case first =>
   go_wp2
   go_loopg [5, 6, 7] (min len 100) (fun g v5 v6 v7 wr => UB1 w ns (min len 100) g v5 v6 v7 wr)
   case atStart => exact ⟨0, by omega, rfl, rfl, OwnI.nil _ _ _, hb1⟩
   case round =>
     obtain ⟨i, hig, rfl, rfl, ho, hbr⟩ := hrel
     have hln := cl_len ns i
     have hfl := flat_le (cl ns i)
     rw [hln] at hfl
     obtain ⟨hlen, hel, hbd⟩ := HA.out
     cases gk with
     | succ g =>
       have hlt : i < len := by omega
       have h100 : i < 100 := by omega
       rcases hel with h | ⟨b, off, rfl, hrow⟩
       · omega
       · have hrow' := hrow.below hbr (Nat.le_refl _)
         have hcell := hrow'.2 i hlt
         simp only [] at hcell
         have hwf := bounds_of (hbd i)
         obtain ⟨wf0, wf1⟩ := hwf
         have HC := Lib.hid (fun w2 => char_walk (ns i) wf0 wf1 w2)
         have hic := chN_isC (ns i)
         have HB := Lib.hid (fun w2 (h : Leads w2) => bytes_yes (chN (ns i)) hic w2 h)
         have HS := Lib.hid (cl_succ ns i)
         have hml := made_len (chN (ns i))
         have hlp := lg_pos (chN (ns i))
         have HF := Lib.hid (flat_snoc (cl ns i) (chN (ns i)))
         have hmp : 0 < (made (chN (ns i))).length := by omega
         have hml4 : (made (chN (ns i))).length ≤ 4 := by omega
         have hmne : (made (chN (ns i))).isEmpty = false := by rw [List.isEmpty_eq_false_iff]; intro h; rw [h] at hmp; simp at hmp
         have HL := Lib.hid hln
         have hbk := hrow.1
         clear hbd hrow hrow' hic hml hlp hln
         generalize chN (ns i) = c at *
         generalize hM : made c = M at *
         have HM := Lib.hid hM
         generalize hF : flat (cl ns i) = F at *
         have HFF := Lib.hid hF
         clear hM hF
         generalize ns i = x at *
         go_wp2_with fail
         refine (HC.out _).mono ?_
         rintro e x1 ⟨rfl, rfl⟩
         go_wp2_with fail
         refine (HB.out _ (ht.below hbr)).mono ?_
         rintro e x2 ⟨rfl, k2⟩
         have hcell2 := (k2.cell (p := ⟨b, off + i, none⟩) (World.block_lt_of_cell? _ _ hcell)).trans hcell
         have ho2 := ho.below k2
         have hb2 := hbr.trans (k2.mono hbr.size)
         clear hcell k2 ho hbr
         go_wp2_with fail
         refine (HC.out _).mono ?_
         rintro e x3 ⟨rfl, rfl⟩
         go_wp2_with (at_builtin; refine wpList_append_own _ rfl _ _ 26 rfl w.heap.size 3 i0 (.int .i64 0) 1 8 Tryd.underlying26 hi hz0 hz1 hz2 rfl (by decide) _ _ _ rfl (World.ownsRow.alloc ho2 _) ⟨x2.heap.size, 0, none⟩ 1 1 [.int .i64 (c : Nat)] rfl rfl ?c1 ?c2 ?c3 ?c4 ?c5 ?_)
         case c1 =>
           intro j u hj
           match j, hj with
           | 0, hj => simp at hj; subst hj; simp [Addr.add]
         case c2 => intro u hu; simp at hu; subst hu; rfl
         case c3 => have := HL.out; unfold maxLen; omega
         case c4 => have := HL.out; omega
         case c5 => have := hb2.size; simp; omega
         intro v' w2 hown' hgrow _
         have hb3 := (hb2.alloc (by have := hb2.size; omega) (.cells #[.int .i64 (c : Nat)] 3)).grown hgrow (by have := hb2.size; simp; omega) (fun k hk => (World.ownsRow.lt ho2 k hk).1)
         have ho3 : OwnI w2 w.heap.size 3 v' (cl ns i ++ [c]) := OwnI.put hown'
         clear hown' hgrow ho2 hb2 hcell2
         go_wp2
         go_roundg g
         case measure => omega
         case rel => exact ⟨i + 1, by omega, by rw [HS.out, HF.out], by simp, by rw [HS.out]; exact ho3, hb3⟩
     | zero =>
       have hI : i = min len 100 := by omega
       have hend : (i < len ∧ (100 : Int) ≤ i) ∨ (len : Int) ≤ i := by omega
       have HL := Lib.hid hI
       clear hel hbd hI hig hln
       rcases hend with ⟨he1, he2⟩ | he1
       all_goals
         go_wp2_with fail
         go_meet
         exact ⟨by rw [HL.out], by rw [← HL.out]; exact ho, hbr⟩
  case rest =>
   obtain ⟨rfl, ho, hbx⟩ := hcut
   have hcs := cl_all ns (min len 100)
   have hcl := cl_len ns (min len 100)
   have hfl := flat_le (cl ns (min len 100))
   generalize cl ns (min len 100) = cs1 at *
   have hcl2 : cs1.length ≤ 100 := by omega
   have hE := chE_some (chars_flat hcs)
   generalize hF : flat cs1 = F at *
   have hfl2 : F.length ≤ 400 := by omega
   have HC := Lib.hid (fun w2 (h : Leads w2) => chars_walk F (by omega) w2 h)
   have HK := Lib.hid (fun w2 (h : Leads w2) => check_walk F (by omega) w2 h)
   have HS := Lib.hid (fun va vb w2 h1 h2 => same_walk cs1 (by omega) va vb w2 h1 h2)
   have HE := Lib.hid hE
   clear hE hF hcs hcl hfl HW HA
   go_wp2_with fail
   refine (HC.out _ (ht.below hbx)).mono ?_
   rintro e w3 ⟨v3, rfl, o3, b3⟩
   rw [HE.out.1]
   rw [HE.out.2] at o3
   have hb3 := hbx.trans (b3.mono hbx.size)
   have ho3 := ho.below b3
   clear b3 ho hbx
   have hK := HK.out w3 (ht.below hb3)
   rw [HE.out.1] at hK
   have HK2 := Lib.hid hK
   clear hK
   go_wp2_with fail
   refine HK2.out.mono ?_
   rintro e w4 ⟨rfl, m4, rfl⟩
   have hb4 := Below_drewN hb3 m4
   have r3 := RdI.of (o3.drewN m4)
   have r5 := RdI.of (ho3.drewN m4)
   clear hb3 o3 ho3 HK2
   generalize w3.drewN m4 = w4 at hb4 r3 r5
   have HR := Lib.hid (HS.out _ _ w4 r3 r5)
   clear r3 r5
   go_wp2_with fail
   refine HR.out.mono ?_
   rintro e w5 ⟨rfl, m5, rfl⟩
   have hb5 := Below_drewN hb4 m5
   clear hb4 HR
   generalize w4.drewN m5 = w5 at hb5
   by_cases hbig : 300 < l.length
   · have hbig' : (300 : Int) < ((l.length : Nat) : Int) := by omega
     go_wp2
     go_ret
     exact ⟨rfl, hb5⟩
   · have hbig' : ((l.length : Nat) : Int) ≤ 300 := by omega
     have HC2 := Lib.hid (fun w2 (h : Leads w2) => chars_walk l (by omega) w2 h)
     have HK2 := Lib.hid (fun w2 (h : Leads w2) => check_walk l hl w2 h)
     clear hbig
     rcases chE_cases l with ⟨e1, cs, e2, e3, ha, e4⟩ | ⟨e1, e2, e3⟩
     · have hcsl := flat_len cs
       rw [e4] at hcsl
       have HE1 := Lib.hid e1
       have HE3 := Lib.hid e3
       have HE4 := Lib.hid e4
       have HA := Lib.hid ha
       clear e1 e2 e3 e4 ha HC HK HS HE
       go_wp2_with fail
       refine (HC2.out _ (ht.below hb5)).mono ?_
       rintro e w6 ⟨v6, rfl, o6, b6⟩
       rw [HE1.out]
       rw [HE3.out] at o6
       have hb6 := hb5.trans (b6.mono hb5.size)
       have r6 := RdI.of o6
       clear b6 o6 hb5
       obtain ⟨ao6, cap6, rfl, hc6⟩ := r6
       have HC6 := Lib.hid hc6
       clear hc6
       go_wp2
       go_loopg [6, 92] cs.length (fun g v6 v92 wr => UB2 w6 cs g v6 v92 w.heap.size w wr)
       case atStart => exact ⟨0, by omega, rfl, rfl, Below.refl _ _, hb6⟩
       case round =>
         obtain ⟨i, hig, rfl, rfl, hbr, hbw⟩ := hrel
         have hfl := flat_le (cs.take i)
         have htl : (cs.take i).length ≤ 300 := by rw [List.length_take]; omega
         cases gk with
         | zero =>
           obtain rfl : i = cs.length := by omega
           have hft : (flat (cs.take cs.length) == l) = true := by rw [List.take_length, HE4.out]; simp
           clear hig hfl htl
           generalize flat (cs.take cs.length) = Y at *
           go_wp2
           go_ret
           exact ⟨rfl, hbw⟩
         | succ g =>
           have hil : i < cs.length := by omega
           rcases HC6.out with h0 | ⟨gb, rfl, hgs, hcells⟩
           · omega
           · have hcell := (hbr.cell (p := ⟨gb, i, none⟩) hgs).trans (hcells i hil)
             have hic : isC (cs.getD i 0) = true := HA.out _ (by
               rw [List.getD, List.getElem?_eq_getElem hil]; exact List.getElem_mem hil)
             have hts : flat (cs.take (i + 1)) = flat (cs.take i) ++ made (cs.getD i 0) := by
               rw [List.take_succ_eq_append_getElem hil, flat_snoc]
               simp [List.getD, List.getElem?_eq_getElem hil]
             have HTS := Lib.hid hts
             have HB := Lib.hid (fun w2 (h : Leads w2) => bytes_yes (cs.getD i 0) hic w2 h)
             have hml := made_len (cs.getD i 0)
             have hlp := lg_pos (cs.getD i 0)
             have hml4 : (made (cs.getD i 0)).length ≤ 4 := by omega
             clear hcells hic hts hml hlp HC6
             generalize cs.getD i 0 = c at *
             generalize made c = X at *
             generalize flat (cs.take i) = Y at *
             go_wp2_with fail
             refine (HB.out _ (ht.below hbw)).mono ?_
             rintro e w7 ⟨rfl, k7⟩
             have hb7 := hbr.trans (k7.mono hbr.size)
             have hb8 := hbw.trans (k7.mono hbw.size)
             clear k7 hbr hbw hcell
             go_wp2
             go_roundg g
             case measure => omega
             case rel => exact ⟨i + 1, by omega, by rw [HTS.out], by simp, hb7, hb8⟩
     · have HE1 := Lib.hid e1
       clear e1 e2 e3 HC HK HS HE
       have hK := fun w2 (h : Leads w2) => HK2.out w2 h
       rw [HE1.out] at hK
       have HK3 := Lib.hid hK
       clear hK
       go_wp2_with fail
       refine (HC2.out _ (ht.below hb5)).mono ?_
       rintro e w6 ⟨v6, rfl, o6, b6⟩
       rw [HE1.out]
       have hb6 := hb5.trans (b6.mono hb5.size)
       clear b6 o6 hb5
       go_wp2_with fail
       refine (HK3.out _ (ht.below hb6)).mono ?_
       rintro e w7 ⟨rfl, m7, rfl⟩
       have hb7 := Below_drewN hb6 m7
       clear hb6
       generalize w6.drewN m7 = w7 at hb7
       go_wp2
       go_ret
       exact ⟨rfl, hb7⟩

namespace utfBack
theorem own : ownKnob Tryd.prog.godebug = none := by kernel_rfl
theorem laidOut : laidOutB Tryd.prog = true := by kernel_rfl
theorem tabs {W : World} (h : laidMetH Tryd.prog Rows.utfBackRow.laid W) : Leads W :=
  leadsOf h (by kernel_rfl) (List.Mem.head _)
theorem walk (v : Value) {B : Nat} {w : World} (g : Rdg Tryd.prog w 26 v.cells.toList) (ok : Value.okWide Tryd.prog w .any B 26 v) (l : List UInt8) (hl : l.length ≤ reachBytes) (ht : Leads w) :
    Calls Tryd.prog 5 #[v, .string (bs l)] w fun e w' => e = .returned (.bool true) ∧ Below w.heap.size w w' := by
  obtain ⟨ao, len, cap, rfl⟩ := okWide_slice Tryd.underlying26 ok
  obtain ⟨ns, ha⟩ := Rdg.nums g Tryd.underlying26 Tryd.underlying3 (by kernel_rfl) (by rw [show Tryd.prog.bytesOf 3 = 8 by kernel_rfl]; omega) (by decide)
  exact utfBack_walk ao len cap ns l (by unfold reachBytes at hl; omega) w ha ht

/-! ### The row's step, over a listed table -/
set_option maxRecDepth 1000000 in
theorem contract (H : Type) (enc : TypeId × Value → H) (W : World) (base : Nat) (args : Array Value) (ds gs : List (DataW H)) (before : List MemPlace)
    (hval0 : ∀ (j : Nat) t v, Tryd.f5.params[j]? = some t → args[j]? = some v → Value.okWide Tryd.prog W .any base t v)
    (hW : DataW.Whole enc Tryd.prog Tryd.f5.params.toList Rows.utfBackSpec.vars false W args.toList ds gs before)
    (hsz0 : (DataW.weightsEach Tryd.prog (Tryd.f5.params.toList ++ (OpenSpec.ofChange Rows.utfBackSpec).bare.plain.varTypes Tryd.prog) (ds ++ gs)).all (· ≤ reachBytes) = true)
    (hL : laidMetH Tryd.prog Rows.utfBackRow.laid W) :
    Calls Tryd.prog 5 args W fun e W' => ∃ v, e = .returned v ∧ Rows.utfBackSpec.post enc Tryd.prog Tryd.f5 false true false false W args v W' := by
  have hval : ∀ (j : Nat) t v, Tryd.f5.params[j]? = some t → args[j]? = some v → Value.okWide Tryd.prog W .any base t v := hval0
  have hW' := hW
  obtain ⟨p, q, hA0, hV, rfl, hfz, hnd⟩ := hW
  have hA : DataW.TrodAll enc Tryd.prog W 0 (fun _ => true) true Tryd.f5.params.toList args.toList ds p := hA0
  have hsz : (DataW.weightsEach Tryd.prog (Tryd.f5.params.toList ++ (OpenSpec.ofChange Rows.utfBackSpec).bare.plain.varTypes Tryd.prog) (ds ++ gs)).all (· ≤ reachBytes) = true := hsz0
  rw [Tryd.params5] at hA hval hsz
  obtain ⟨v0, vs0, d0, ds0, p0, q0, hargs, rfl, rfl, h0, r0⟩ := trodAll_cons hA
  obtain ⟨v1, vs1, d1, ds1, p1, q1, rfl, rfl, rfl, h1, r1⟩ := trodAll_cons r0
  obtain ⟨rfl, rfl, rfl⟩ := trodAll_nil r1
  obtain rfl : args = #[v0, v1] := by cases args; simp_all
  obtain ⟨rfl, rfl⟩ := trodVars_none hV
  have k0 := h0
  have lt0 : ∀ x ∈ p0, x.block < W.heap.size := by obtain ⟨m, hm⟩ := k0; exact DataW.trod_lt m _ _ _ hm
  have ok0 := hval 0 26 v0 rfl rfl
  have g0 := Rdg.of k0 hsz (j := 0) rfl rfl
  have k1 := h1
  obtain ⟨a1, rfl, rfl, rfl, w1⟩ := open_string Tryd.underlying9 (hval 1 9 v1 rfl rfl) h1
  obtain ⟨l1, e1, b1⟩ := (Rdg.of k1 hsz (j := 1) rfl rfl).string Tryd.underlying9
  obtain rfl : a1 = bs l1 := by simpa [Value.cells] using e1
  clear hA0 hval0 hsz0
  refine (walk v0 g0 ok0 l1 b1 (tabs hL)).mono fun e W' ⟨he, bel⟩ => ?_
  subst he
  exact ⟨_, rfl, _, _, _, [], _, [], hW', trodAll_mk1 (shut_bool Tryd.underlying4 _), (trodAll_cons_mk (Below.trod laidOut (by kernel_rfl) (of_decide_eq_true (by kernel_rfl)) k0 bel lt0) (trodAll_cons_mk (shut_string Tryd.underlying9 w1) trodAll_mk0)), rfl, bel.frame _, fun h => by cases h⟩

set_option maxRecDepth 1000000 in
theorem laid_met (os : Os) : laidMet Tryd.prog Rows.utfBackRow.laid ((World.laidAll Tryd.prog os Rows.utfBackRow.laid).forCall (fun _ _ => 0) ⟨#[], #[.slice none 0 0, .string ByteArray.empty], []⟩).memory :=
  laidMet_laidAll _ (by kernel_rfl) (by kernel_rfl)
set_option maxRecDepth 1000000 in
theorem reads (os : Os) {H : Type} (enc : TypeId × Value → H) : ∃ places, DataW.whole enc Tryd.prog ((World.laidAll Tryd.prog os Rows.utfBackRow.laid).forCall (fun _ _ => 0) ⟨#[], #[.slice none 0 0, .string ByteArray.empty], []⟩).memory Tryd.f5.params.toList Rows.utfBackSpec.vars false (#[.slice none 0 0, .string ByteArray.empty] : Array Value).toList 8 = some ([.nil, .lit (.string [])], [], places) :=
  ⟨[], by kernel_rfl⟩
set_option maxRecDepth 1000000 in
theorem lifted (os : Os) (started : os.Started) (H : Type) (enc : TypeId × Value → H) (F : Stop.Interp) :
    ReturnsInHanded {} Tryd.checked os 5 .any ((OpenSpec.ofChange Rows.utfBackSpec).preRow enc Tryd.prog Tryd.f5 Rows.utfBackRow.domain false Rows.utfBackRow.laid) (((OpenSpec.ofChange Rows.utfBackSpec).at F).post enc Tryd.prog Tryd.f5 false true false false) := by
  obtain ⟨places, hx⟩ := reads os enc
  refine returnsInHanded_of_row (C := Tryd.checked) (s := OpenSpec.ofChange Rows.utfBackSpec) own started (by kernel_rfl) Tryd.func5
    (witness_row_at (enc := enc) (C := Tryd.checked) false (World.laidAll Tryd.prog os Rows.utfBackRow.laid) #[.slice none 0 0, .string ByteArray.empty] (World.laidAll_os _ _ _) (by kernel_rfl) (by kernel_rfl) (by kernel_rfl)
      (OpenSpec.preRow_of_cond 8 hx (by kernel_rfl) (fun k hk => by cases hk) (by kernel_rfl) (laid_met os))) ?_
  intro W base args ds gs before hval hW _ _ hsz hL _ _
  exact contract H enc W base args ds gs before hval hW hsz hL

theorem over : Rows.utfBackRow.holds Tryd.pinned (OpenSpec.ofChange Rows.utfBackSpec) :=
  OpenClaim.holds_of_cond 5 Tryd.f5 rfl rfl rfl rfl rfl rfl rfl ⟨rfl, rfl, rfl, rfl, rfl⟩ rfl rfl rfl rfl rfl (by kernel_rfl) Tryd.func5 (by kernel_rfl)
    (of_decide_eq_true (by kernel_rfl)) (by unfold Func.isWrapper; first | (rw [if_pos (by decide +kernel)]; kernel_rfl) | (rw [if_neg (by decide +kernel)]; exact ⟨rfl, rfl⟩))
    (fun os started H enc _ F => by rw [OpenClaim.pre_eq_preRow]; exact lifted os started H enc F)

theorem plain (f : FuncId) (fn : Func) (hf : Tryd.pinned.checked.prog.funcNamed "gong/gonglaw04.UtfBack" = some f) (hfn : Tryd.pinned.checked.prog.funcs[f]? = some fn) :
    false = Tryd.pinned.checked.prog.looks [] ∧ ∀ (j : Nat) t, fn.params[j]? = some t → Tryd.pinned.checked.prog.wantsStandIn t = false := by
  obtain rfl : f = 5 := Option.some.inj ((show Tryd.prog.funcNamed "gong/gonglaw04.UtfBack" = some 5 by kernel_rfl).symm.trans hf) |>.symm
  obtain rfl : fn = Tryd.f5 := (Option.some.inj (Tryd.func5.symm.trans hfn)).symm
  refine ⟨by kernel_rfl, fun j t ht => ?_⟩
  have hall : (Tryd.f5.params.toList.all fun u => !Tryd.prog.wantsStandIn u) = true := by kernel_rfl
  have hm : t ∈ Tryd.f5.params.toList := by simpa using Array.mem_of_getElem? ht
  exact (show Tryd.prog.wantsStandIn t = false by simpa using List.all_eq_true.1 hall t hm)

/-- The card. -/
theorem proved : Rows.UtfBackCardSaid :=
  Claim7.holds_tied_plain_at .later [] _ _ _ _ over (fun _ h => by cases h) (by kernel_rfl) (fun _ h => by cases h) utfBack_row_tie rfl ⟨rfl, rfl⟩ (by kernel_rfl) rfl plain (by kernel_rfl)
#print axioms proved
end utfBack
end Go.Proofs.YthmnfffloioagaaDoor
