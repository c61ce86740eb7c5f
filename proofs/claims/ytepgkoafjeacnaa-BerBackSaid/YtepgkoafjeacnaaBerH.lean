/- gonglaw05.grown, walked: on whatever Wrap answers as it should. -/
import Derived.Test.YtepgkoafjeacnaaRows
import Derived.Test.YtepgkoafjeacnaaBerG
import Derived.Test.YtepgkoafjeacnaaStk
import Derived.Test.YtepgkoafjeacnaaBook
import Derived.Test.YtepgkoafjeacnaaArg
import Derived.ProofKit
import Derived.IntWalk
import Derived.Deep.LoopGhost
import Derived.Deep.DeepCutAuto
import Derived.Deep.CutBlock
namespace Go.Proofs.Ytepgkoafjeacnaa
open Go.ChangeShapes Go.WideShapes Go.ChangeAt Go.RowKit K P1 B5
set_option linter.unusedVariables false

def sst (st : List Fo) : List (List UInt8) := st.reverse.map Fo.enc
theorem sst_cons (t : Fo) (r : List Fo) : sst (t :: r) = sst r ++ [t.enc] := by simp [sst]
theorem sst_len (st : List Fo) : (sst st).length = st.length := by simp [sst]
theorem get_end (a : List (List UInt8)) (x : List UInt8) (b : List (List UInt8)) : (a ++ x :: b).getD a.length [] = x := by simp [List.getD]
theorem set_end (a : List (List UInt8)) (x y : List UInt8) : (a ++ [x]).set a.length y = a ++ [y] := by simp
theorem tot_head {t : Fo} {r : List Fo} : t.enc.length + 6 ≤ tot (t :: r) := by simp only [tot]; omega
theorem tot_two {t p : Fo} {r : List Fo} : t.enc.length + p.enc.length + 12 ≤ tot (t :: p :: r) := by simp only [tot]; omega

theorem wf_i64 {t : Int} (wt : (Lit.int .i64 t).wf = true) : -9223372036854775808 ≤ t ∧ t ≤ 9223372036854775807 := by
  simp [Lit.wf, IntKind.min, IntKind.max, IntKind.bits, IntKind.signed] at wt; omega
/-- What Wrap is known to answer. -/
def WrapOk (I : World → Prop) : Prop := (∀ a b, I a → Below a.heap.size a b → I b) ∧ ∀ (t : Nat) (b : List UInt8) (w : World), isTag t = true → t < 256 → b.length ≤ 16777216 → I w →
  Calls Try.prog 8 #[.int .i64 t, .string (bs b)] w fun e w' => e = .returned (.tuple #[.string (bs (put t b)), .int .i64 0]) ∧ Below w.heap.size w w'
def RepOk : Prop := ∀ (c : Nat) (w : World), c ≤ 1000 → Calls Try.prog 36 #[.string (bs [120]), .int .i64 c] w fun e w' => e = .returned (.string (bs (List.replicate c 120))) ∧ Below w.heap.size w w'
theorem str_info : (Try.prog.info? 9).map (fun i => (i.zero, i.size, i.bytes)) = some (some (.string .empty), 1, 16) := by kernel_rfl

def GwRel (w : World) (G : Nat → List Fo) (I g : Nat) (v3 v4 : Value) (wr : World) : Prop :=
  ∃ i gb cap, i + g = I ∧ v3 = .slice (some ⟨gb, 0, none⟩) (G i).length cap ∧ v4 = .int .i64 (i : Nat) ∧ StkAt wr w.heap.size 9 gb cap (sst (G i)) ∧ Below w.heap.size w wr
def GcRel (w : World) (F : Fo) (gb cap g : Nat) (v3 : Value) (wr : World) : Prop :=
  ∃ t q, gcl t q = F ∧ q.length = g ∧ g ≤ 20 ∧ v3 = .slice (some ⟨gb, 0, none⟩) (g + 1) cap ∧ tot (t :: q) ≤ 20000 ∧ StkAt wr w.heap.size 9 gb cap (sst (t :: q)) ∧ Below w.heap.size w wr
theorem grow_enc (t : Fo) (q : List Fo) : (grow (t :: q)).enc = put 48 (gcl t q).enc := by
  show put 48 (gcl t q).enc ++ [] = _; rw [List.append_nil]
set_option maxHeartbeats 4000000 in
set_option maxRecDepth 100000 in
theorem grown_walk (I : World → Prop) (HI : WrapOk I) (HR : RepOk) (ao : Option Addr) (len cap : Nat) (ns : Nat → Int) (w : World) (ha : Nums .i64 w ao len ns) (hw : I w) :
    Calls Try.prog 19 #[.slice ao len cap] w fun e w' => e = .returned (.string (bs (grow (gall (fun i => belowN (ns i) 5) (fun i => belowN (ns i) 200) (min len 60))).enc)) ∧ Below w.heap.size w w' := by
  have hk : ∀ i, 0 ≤ belowN (ns i) 200 ∧ belowN (ns i) 200 < 200 := fun i => belowN_bounds (ns i) 200 (by omega)
  have HG := Lib.hid (fun i hi => gall_facts (fun i => belowN (ns i) 5) (fun i => belowN (ns i) 200) hk i hi)
  have HS := Lib.hid (show ∀ i, gall (fun i => belowN (ns i) 5) (fun i => belowN (ns i) 200) (i + 1) = gst (belowN (ns i) 5) (belowN (ns i) 200).toNat (gall (fun i => belowN (ns i) 5) (fun i => belowN (ns i) 200) i) from fun _ => rfl)
  have HK := Lib.hid hk
  have HA := Lib.hid ha
  have HW := Lib.hid HI.2
  have HIB := Lib.hid HI.1
  have HRR := Lib.hid HR
  obtain ⟨i0, hi, hz0, hz1, hz2⟩ := (show ∃ i, Try.prog.info? 9 = some i ∧ i.zero = some (.string .empty) ∧ i.size = 1 ∧ i.bytes = 16 by
    obtain ⟨i, h1, h2⟩ := Option.map_eq_some_iff.1 str_info
    simp only [Prod.mk.injEq] at h2
    exact ⟨i, h1, h2.1, h2.2.1, h2.2.2⟩)
  have HG0 := Lib.hid (show gall (fun i => belowN (ns i) 5) (fun i => belowN (ns i) 200) 0 = [.nil] from rfl)
  clear hk ha HI HR
  generalize hgl : gall (fun i => belowN (ns i) 5) (fun i => belowN (ns i) 200) = G at *
  clear hgl
  go_enter Try.func19, Try.ntmps19
  go_upto_block 0 with (fail)
  go_cut [3] (fun v3 wx => ∃ gb cap, v3 = .slice (some ⟨gb, 0, none⟩) (G (min len 60)).length cap ∧ StkAt wx w.heap.size 9 gb cap (sst (G (min len 60))) ∧ Below w.heap.size w wx)
  case first =>
   go_wp2
   go_loopg [3, 4] (min len 60) (fun g v3 v4 wr => GwRel w G (min len 60) g v3 v4 wr)
   case atStart =>
     refine ⟨0, _, _, by omega, by rw [HG0.out]; rfl, rfl, ?_, (Below.refl _ _).alloc (Nat.le_refl _) _⟩
     rw [HG0.out]
     exact StkAt.new w w.heap.size 9 [] (Nat.le_refl _)
   case round =>
     obtain ⟨i, gb, cap, hig, rfl, rfl, hS, hbr⟩ := hrel
     obtain ⟨hlen, hel, hbd⟩ := HA.out
     cases gk with
     | succ g =>
       have hlt : i < len := by omega
       have h60 : i < 60 := by omega
       rcases hel with h | ⟨b, off, rfl, hrow⟩
       · omega
       · have hrow' := hrow.below hbr (Nat.le_refl _)
         have hcell := hrow'.2 i hlt
         simp only [] at hcell
         obtain ⟨wf0, wf1⟩ := wf_i64 (hbd i)
         have HB5 := Lib.hid (fun w2 => below_walk (ns i) 5 wf0 wf1 (by omega) (by omega) w2)
         have HB200 := Lib.hid (fun w2 => below_walk (ns i) 200 wf0 wf1 (by omega) (by omega) w2)
         obtain ⟨k0, k1⟩ := HK.out i
         obtain ⟨f1, f2, f3⟩ := HG.out i (by omega)
         have hst := HS.out i
         generalize belowN (ns i) 5 = b5 at *
         obtain ⟨k, hk⟩ := Int.eq_ofNat_of_zero_le k0
         rw [hk] at HB200 hst k1
         rw [Int.toNat_natCast] at hst
         have hk2 : k < 200 := by omega
         have HST := Lib.hid hst
         clear hst hk k0 k1 hbd hrow hrow'
         generalize ns i = x at *
         generalize hGi : G i = st at *
         have HGI := Lib.hid hGi
         clear hGi
         cases st with
         | nil => exact absurd rfl f1
         | cons t r =>
           have hlr : r.length ≤ 11 := f2.2.2.1
           have htl : t.enc.length ≤ 20000 := by have := @tot_head t r; omega
           by_cases hpush : b5 = 0 ∧ r.length < 11
           · obtain ⟨hb0, hr11⟩ := hpush
             have hst2 : gst b5 k (t :: r) = .nil :: t :: r := by
               cases r with
               | nil => rw [gst_one, if_pos hb0]
               | cons p q => rw [gst_two, if_pos ⟨hb0, by rw [List.length_cons] at hr11; omega⟩]
             rw [hst2] at HST
             have hown := hS.own
             rw [sst_len] at hown
             have hbz : (b5 == 0) = true := by rw [beq_iff_eq]; exact hb0
             have hlenm : (t :: r).length = r.length + 1 := rfl
             rw [hlenm] at hown ⊢
             generalize hm : r.length = m at *
             have HM := Lib.hid hm
             clear hst2 hb0 hm f1 f2 f3 hlenm
             go_wp2_with fail
             refine (HB5.out _).mono ?_
             rintro e x1 ⟨rfl, rfl⟩
             go_wp2_with (at_builtin; refine wpList_append_own _ rfl _ _ 61 rfl w.heap.size 9 i0 (.string .empty) 1 16 Try.underlying61 hi hz0 hz1 hz2 rfl (by decide) _ _ _ rfl (World.ownsRow.alloc hown _) ⟨wr.heap.size, 0, none⟩ 1 1 [.string (bs [])] rfl rfl ?c1 ?c2 ?c3 ?c4 ?c5 ?_)
             case c1 =>
               intro j u hj
               match j, hj with
               | 0, hj => simp at hj; subst hj; simp [Addr.add]; rfl
             case c2 => intro u hu; simp at hu; subst hu; rfl
             case c3 => unfold maxLen; omega
             case c4 => omega
             case c5 => have := hbr.size; simp; omega
             intro v' w2 hown' hgrow _
             have hb3 := (hbr.alloc (by have := hbr.size; omega) (.cells #[.string (bs [])] 9)).grown hgrow (by have := hbr.size; simp; omega) (fun k hk => (World.ownsRow.lt hown k hk).1)
             have hown2 : w2.ownsRow w.heap.size 9 1 v' (m + 1 + 1) (strs (sst (.nil :: t :: r))) := by
               rw [sst_cons .nil (t :: r), strs_app]; exact hown'
             obtain ⟨g2, cap2, rfl, hS2⟩ := StkAt.ofOwn (ss := sst (.nil :: t :: r)) (by rw [sst_len, List.length_cons, List.length_cons, HM.out]) (by rw [sst_len]; simp) hown2
             clear hown' hown2 hgrow hown hcell
             rw [sst_len]
             go_wp2
             go_roundg g
             case measure => omega
             case rel => exact ⟨i + 1, g2, cap2, by omega, by rw [HST.out], by simp, by rw [HST.out]; exact hS2, hb3⟩
           · by_cases hclose : b5 = 1 ∧ r ≠ []
             · obtain ⟨hb1, hrn⟩ := hclose
               cases r with
               | nil => exact absurd rfl hrn
               | cons p q =>
                 have hst2 : gst b5 k (t :: p :: q) = p.app (.node 48 t .nil) :: q := by
                   rw [gst_two, if_neg (by omega), if_pos hb1]
                 rw [hst2] at HST
                 have hEN := enc_node p t
                 have hpl2 : p.enc.length ≤ 20000 := by have := @tot_two t p q; omega
                 rw [sst_cons, sst_cons] at hS
                 have hlenm : (t :: p :: q).length = q.length + 1 + 1 := rfl
                 have hq := sst_len q
                 rw [hlenm]
                 have c1 := hS.cell (q.length + 1) (by simp [hq])
                 have hS1 := hS.cut
                 have c2 := hS1.cell q.length (by simp [hq])
                 rw [show (sst q ++ [p.enc] ++ [t.enc]).getD (q.length + 1) [] = t.enc by
                   rw [← hq]; simp [List.getD]] at c1
                 rw [show (sst q ++ [p.enc]).getD q.length [] = p.enc by rw [← hq]; exact get_end (sst q) p.enc []] at c2
                 have hset := fun wz => @set_end (sst q) p.enc wz
                 rw [hq] at hset
                 have hql : q.length ≤ 10 := by rw [List.length_cons] at hlr; omega
                 have hgk : gb < wr.heap.size := hS.lt
                 have hWr := Lib.hid (HW.out 48 t.enc wr rfl (by omega) (by omega) (HIB.out _ _ hw hbr))
                 have hpt := put_len 48 t.enc
                 have hsl := short_le t.enc.length
                 have hcap : q.length + 1 ≤ cap := by have := hS1.2.1; simp [hq] at this; exact this
                 have HS1 := Lib.hid hS1; have HSET := Lib.hid hset; have HEN := Lib.hid hEN
                 have hpl3 : (put 48 t.enc).length ≤ 20010 := by omega
                 have hb51 : (b5 == 0) = false := by rw [beq_eq_false_iff_ne]; omega
                 have hb52 : (b5 == 1) = true := by rw [beq_iff_eq]; exact hb1
                 clear hst2 hEN hlenm hq hS hS1 hset hpt hsl f1 f2 f3 hb1 hrn hpush
                 generalize hm : q.length = m at *
                 have HM := Lib.hid hm
                 clear hm
                 generalize put 48 t.enc = PT at *
                 generalize t.enc = TE at *
                 generalize p.enc = PE at *
                 go_wp2_with fail
                 refine (HB5.out _).mono ?_
                 rintro e x1 ⟨rfl, rfl⟩
                 go_wp2_with fail
                 refine hWr.out.mono ?_
                 rintro e x2 ⟨rfl, k2⟩
                 have c3 := (k2.cell (p := ⟨gb, m, none⟩) hgk).trans c2
                 have hS2 := HS1.out.below k2
                 have hfr := hS2.free m
                 have hb2 := hbr.trans (k2.mono hbr.size)
                 have hgB := hS2.1
                 have HS2 := Lib.hid hS2
                 clear c1 c2 k2 hbr hcell hS2
                 go_wp2
                 go_roundg g
                 case measure => omega
                 case rel =>
                   refine ⟨i + 1, gb, cap, by omega, by rw [HST.out, List.length_cons, HM.out], by simp, ?_, hb2.setCell hgB _⟩
                   rw [HST.out, sst_cons, HEN.out, ← HSET.out]
                   exact HS2.out.set m _
             · have hst2 : gst b5 k (t :: r) = t.app (.leaf 4 (List.replicate k 120) .nil) :: r := by
                 cases r with
                 | nil => rw [gst_one, if_neg (by intro h; exact hpush ⟨h, by simp⟩)]
                 | cons p q => rw [gst_two, if_neg (by intro h; exact hpush ⟨h.1, by rw [List.length_cons]; omega⟩), if_neg (by intro h; exact hclose ⟨h, by simp⟩)]
               rw [hst2] at HST
               have hEN := enc_leaf t k
               rw [sst_cons] at hS
               have hlenm : (t :: r).length = r.length + 1 := rfl
               have hq := sst_len r
               rw [hlenm]
               have c1 := hS.cell r.length (by simp [hq])
               rw [show (sst r ++ [t.enc]).getD r.length [] = t.enc by rw [← hq]; exact get_end (sst r) t.enc []] at c1
               have hset := fun wz => @set_end (sst r) t.enc wz
               rw [hq] at hset
               have hgk : gb < wr.heap.size := hS.lt
               have hlr2 : (List.replicate k (120 : UInt8)).length = k := List.length_replicate
               have hpt := put_len 4 (List.replicate k 120)
               have hsl := short_le (List.replicate k (120 : UInt8)).length
               have hpl3 : (put 4 (List.replicate k 120)).length ≤ 300 := by omega
               have hWr := Lib.hid (fun wz (h : I wz) => HW.out 4 (List.replicate k 120) wz rfl (by omega) (by omega) h)
               have HRep := Lib.hid (fun wz => HRR.out k wz (by omega))
               have HS1 := Lib.hid hS; have HSET := Lib.hid hset; have HEN := Lib.hid hEN
               have hcase : ((b5 == 0) = true ∧ (b5 == 1) = false ∧ 12 ≤ r.length + 1) ∨ ((b5 == 0) = false ∧ (b5 == 1) = true ∧ r.length < 1) ∨ ((b5 == 0) = false ∧ (b5 == 1) = false) := by
                 by_cases h0 : b5 = 0
                 · left
                   refine ⟨by rw [beq_iff_eq]; exact h0, beq_eq_false_iff_ne.2 (by omega), ?_⟩
                   by_cases h1 : r.length < 11
                   · exact absurd ⟨h0, h1⟩ hpush
                   · omega
                 · right
                   by_cases h1 : b5 = 1
                   · left
                     refine ⟨beq_eq_false_iff_ne.2 h0, by rw [beq_iff_eq]; exact h1, ?_⟩
                     by_cases h2 : r = []
                     · rw [h2]; simp
                     · exact absurd ⟨h1, h2⟩ hclose
                   · right; exact ⟨beq_eq_false_iff_ne.2 h0, beq_eq_false_iff_ne.2 h1⟩
               clear hst2 hEN hlenm hq hS hset hpt hsl f1 f2 f3 hpush hclose hlr2
               generalize hm : r.length = m at *
               have HM := Lib.hid hm
               clear hm
               generalize put 4 (List.replicate k 120) = PT at *
               generalize List.replicate k (120 : UInt8) = RK at *
               generalize t.enc = TE at *
               rcases hcase with ⟨q0, q1, q2⟩ | ⟨q0, q1, q2⟩ | ⟨q0, q1⟩
               all_goals
                 go_wp2_with fail
                 refine (HB5.out _).mono ?_
                 rintro e x1 ⟨rfl, rfl⟩
                 go_wp2_with fail
                 refine (HB200.out _).mono ?_
                 rintro e x1 ⟨rfl, rfl⟩
                 go_wp2_with fail
                 refine (HRep.out _).mono ?_
                 rintro e x1 ⟨rfl, k1⟩
                 have hb1 := hbr.trans (k1.mono hbr.size)
                 go_wp2_with fail
                 refine (hWr.out _ (HIB.out _ _ hw hb1)).mono ?_
                 rintro e x2 ⟨rfl, k2⟩
                 have c3 := (k2.cell (p := ⟨gb, m, none⟩) (Nat.lt_of_lt_of_le hgk k1.size)).trans ((k1.cell (p := ⟨gb, m, none⟩) hgk).trans c1)
                 have hS2 := (HS1.out.below k1).below k2
                 have hfr := hS2.free m
                 have hb2 := hb1.trans (k2.mono hb1.size)
                 have hgB := hS2.1
                 have HS2 := Lib.hid hS2
                 clear c1 k1 k2 hbr hb1 hcell hS2
                 go_wp2
                 go_roundg g
                 case measure => omega
                 case rel =>
                   refine ⟨i + 1, gb, cap, by omega, by rw [HST.out, List.length_cons, HM.out], by simp, ?_, hb2.setCell hgB _⟩
                   rw [HST.out, sst_cons, HEN.out, ← HSET.out]
                   exact HS2.out.set m _
     | zero =>
       have hI : i = min len 60 := by omega
       have hend : (i < len ∧ (60 : Int) ≤ i) ∨ (len : Int) ≤ i := by omega
       have HL := Lib.hid hI
       clear hel hbd hI hig
       rcases hend with ⟨he1, he2⟩ | he1
       all_goals
         go_wp2_with fail
         go_meet
         exact ⟨gb, cap, by rw [HL.out], by rw [← HL.out]; exact hS, hbr⟩
  case rest =>
   obtain ⟨gb, cap, rfl, hS, hbx⟩ := hcut
   obtain ⟨f1, f2, f3⟩ := HG.out (min len 60) (by omega)
   have HGG := Lib.hid (show ∀ t q, G (min len 60) = t :: q → (grow (G (min len 60))).enc = put 48 (gcl t q).enc from fun t q h => by rw [h]; exact grow_enc t q)
   generalize hst : G (min len 60) = st at f1 f2 f3 hS
   cases st with
   | nil => exact absurd rfl f1
   | cons t q =>
     have hql : q.length ≤ 11 := f2.2.2.1
     have HGE := Lib.hid (HGG.out t q hst)
     clear hst HG HS HK HA HG0 HGG
     have HF := Lib.hid (show gcl t q = gcl t q from rfl)
     have hr0 : GcRel w (gcl t q) gb cap q.length (.slice (some ⟨gb, 0, none⟩) (t :: q).length cap) wc := ⟨t, q, rfl, rfl, by omega, rfl, by omega, hS, hbx⟩
     have HR0 := Lib.hid hr0
     generalize gcl t q = F at *
     clear hS f1 f2 f3 hbx hr0
     go_wp2
     go_loopg [3] q.length (fun g v3 wr => GcRel w F gb cap g v3 wr)
     case atStart => exact HR0.out
     case round =>
       clear HR0 HF
       obtain ⟨t1, q1, hF, hg, hg2, rfl, htot, hS, hbr⟩ := hrel
       have hgk : gb < wr.heap.size := hS.lt
       cases gk with
       | zero =>
         obtain rfl : q1 = [] := List.length_eq_zero_iff.1 hg
         have c1 := hS.cell 0 (by rw [sst_cons]; simp)
         have hFe : t1.enc = F.enc := by rw [← hF]; rfl
         rw [show (sst [t1]).getD 0 [] = t1.enc from rfl, hFe] at c1
         have htl : F.enc.length ≤ 20000 := by rw [← hFe]; have := @tot_head t1 []; omega
         have HWr := Lib.hid (HW.out 48 F.enc wr rfl (by omega) (by omega) (HIB.out _ _ hw hbr))
         clear hF hg hg2 htot hS hFe
         generalize F.enc = X at *
         go_wp2_with fail
         refine HWr.out.mono ?_
         rintro e x2 ⟨rfl, k2⟩
         go_wp2
         go_ret
         rw [HGE.out]
         exact ⟨rfl, hbr.trans (k2.mono hbr.size)⟩
       | succ g =>
         cases q1 with
         | nil => cases hg
         | cons p q1 =>
           have hg' : q1.length = g := by rw [List.length_cons] at hg; omega
           have hF2 : gcl (p.app (.node 48 t1 .nil)) q1 = F := hF
           have hEN := enc_node p t1
           have hpl2 : p.enc.length ≤ 20000 := by have := @tot_two t1 p q1; omega
           have htl : t1.enc.length ≤ 20000 := by have := @tot_two t1 p q1; omega
           rw [sst_cons, sst_cons] at hS
           have hq := sst_len q1
           rw [hg'] at hq
           have c1 := hS.cell (g + 1) (by simp [hq])
           have hS1 := hS.cut
           have c2 := hS1.cell g (by simp [hq])
           rw [show (sst q1 ++ [p.enc] ++ [t1.enc]).getD (g + 1) [] = t1.enc by rw [← hq]; simp [List.getD]] at c1
           rw [show (sst q1 ++ [p.enc]).getD g [] = p.enc by rw [← hq]; exact get_end (sst q1) p.enc []] at c2
           have hset := fun wz => @set_end (sst q1) p.enc wz
           rw [hq] at hset
           have hWr := Lib.hid (HW.out 48 t1.enc wr rfl (by omega) (by omega) (HIB.out _ _ hw hbr))
           have hpt := put_len 48 t1.enc
           have hsl := short_le t1.enc.length
           have hcap : g + 1 ≤ cap := by have := hS1.2.1; simp [hq] at this; exact this
           have htot2 : tot (p.app (.node 48 t1 .nil) :: q1) ≤ 20000 := by
             simp only [tot] at htot ⊢
             rw [hEN, List.length_append]; omega
           have HS1 := Lib.hid hS1; have HSET := Lib.hid hset; have HEN := Lib.hid hEN
           have HF2 := Lib.hid hF2; have HG' := Lib.hid hg'; have HTOT := Lib.hid htot2
           have hpl3 : (put 48 t1.enc).length ≤ 20010 := by omega
           clear hEN hq hS hS1 hset hpt hsl hF hF2 hg hg' htot htot2
           generalize put 48 t1.enc = PT at *
           generalize t1.enc = TE at *
           generalize p.enc = PE at *
           go_wp2_with fail
           refine hWr.out.mono ?_
           rintro e x2 ⟨rfl, k2⟩
           have c3 := (k2.cell (p := ⟨gb, g, none⟩) hgk).trans c2
           have hS2 := HS1.out.below k2
           have hfr := hS2.free g
           have hb2 := hbr.trans (k2.mono hbr.size)
           have hgB := hS2.1
           have HS2 := Lib.hid hS2
           clear c1 c2 k2 hbr hS2
           go_wp2
           go_roundg g
           case measure => omega
           case rel =>
             refine ⟨_, q1, HF2.out, HG'.out, by omega, rfl, HTOT.out, ?_, hb2.setCell hgB _⟩
             rw [sst_cons, HEN.out, ← HSET.out]
             exact HS2.out.set g _
end Go.Proofs.Ytepgkoafjeacnaa
