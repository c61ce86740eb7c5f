/- The law on ber's there and back, walked on calls that keep their word. -/
import Derived.Test.YtepgkoafjeacnaaBerX
import Derived.Test.YtepgkoafjeacnaaPts
import Derived.BigQuiet
import Derived.Deep.QuietTactic
namespace Go.Proofs.Ytepgkoafjeacnaa
open Go.ChangeShapes Go.WideShapes Go.ChangeAt Go.RowKit K P1 B5
set_option linter.unusedVariables false

def puts (ps : List (Nat × List UInt8)) : List UInt8 := ps.flatMap fun p => put p.1 p.2
theorem puts_app (a b : List (Nat × List UInt8)) : puts (a ++ b) = puts a ++ puts b := by simp [puts]
theorem puts_one (t : Nat) (b : List UInt8) : puts [(t, b)] = put t b := by simp [puts]
def PtPost (ps : List (Nat × List UInt8)) (w : World) (e : Ending) (w' : World) : Prop :=
  ∃ v, e = .returned (.tuple #[v, .int .i64 0]) ∧ OwnP w' w.heap.size 34 v ps ∧ Below w.heap.size w w'
structure BerOk2 (I : World → Prop) : Prop extends BerOk I where
  next : ∀ (t : Nat) (b r : List UInt8) (w : World), isTag t = true → t < 256 → b.length ≤ 300 → r.length ≤ 300 → I w → Calls Try.prog 15 #[.string (bs (put t b ++ r))] w fun e w' => e = .returned (.tuple #[.agg #[.int .i64 t, .string (bs b)], .string (bs r), .int .i64 0]) ∧ Below w.heap.size w w'
  parts : ∀ (ps : List (Nat × List UInt8)) (w : World), (∀ p ∈ ps, isTag p.1 = true ∧ p.1 < 256 ∧ p.2.length ≤ 300) → ps.length ≤ 30 → I w → Calls Try.prog 16 #[.string (bs (puts ps))] w (PtPost ps w)
  number : ∀ (l : List UInt8) (w : World), nOk l = true → I w → Calls Try.prog 17 #[.string (bs l)] w fun e w' => e = .returned (.tuple #[.int .i64 (nv l), .int .i64 0]) ∧ Below w.heap.size w w'
  unsigned : ∀ (l : List UInt8) (w : World), uOk l = true → I w → Calls Try.prog 18 #[.string (bs l)] w fun e w' => e = .returned (.tuple #[.int .u64 (uv l), .int .i64 0]) ∧ Below w.heap.size w w'
theorem Below_drewNb {B : Nat} {a b : World} (h : Below B a b) (n : Nat) : Below B a (b.drewN n) := ⟨h.os, h.tape, h.output, h.size, h.block⟩
/-- The tag of a number. -/
def tgN (x : Int) : Nat := if belowN x 256 % 32 = 31 then (belowN x 256 - 1).toNat else (belowN x 256).toNat
theorem tgN_ok (x : Int) : isTag (tgN x) = true ∧ tgN x < 256 := by
  have h := belowN_bounds x 256 (by omega)
  unfold tgN isTag
  by_cases h1 : belowN x 256 % 32 = 31
  · rw [if_pos h1]
    exact ⟨by rw [bne_iff_ne]; omega, by omega⟩
  · rw [if_neg h1]
    exact ⟨by rw [bne_iff_ne]; omega, by omega⟩
def wl (ns : Nat → Int) (b : List UInt8) (i : Nat) : List (Nat × List UInt8) := (List.range i).map fun j => (tgN (ns j), b)
theorem wl_succ (ns : Nat → Int) (b : List UInt8) (i : Nat) : wl ns b (i + 1) = wl ns b i ++ [(tgN (ns i), b)] := by
  unfold wl; rw [List.range_succ, List.map_append]; rfl
theorem wl_len (ns : Nat → Int) (b : List UInt8) (i : Nat) : (wl ns b i).length = i := by simp [wl]
theorem wl_ok (ns : Nat → Int) (b : List UInt8) (hb : b.length ≤ 300) (i : Nat) : ∀ p ∈ wl ns b i, isTag p.1 = true ∧ p.1 < 256 ∧ p.2.length ≤ 300 := by
  intro p hp
  unfold wl at hp
  obtain ⟨j, _, rfl⟩ := List.mem_map.1 hp
  exact ⟨(tgN_ok _).1, (tgN_ok _).2, hb⟩
theorem part_info : (Try.prog.info? 34).map (fun i => (i.zero, i.size, i.bytes)) = some (some (.agg #[.int .i64 0, .string .empty]), 2, 24) := by kernel_rfl
def BbRel (w : World) (ns : Nat → Int) (b : List UInt8) (I g : Nat) (v7 v8 v35 : Value) (wr : World) : Prop :=
  ∃ i, i + g = I ∧ v7 = .string (bs (puts (wl ns b i))) ∧ v35 = .int .i64 (i : Nat) ∧ OwnP wr w.heap.size 34 v8 (wl ns b i) ∧ Below w.heap.size w wr ∧ (puts (wl ns b i)).length ≤ i * 310
def BcRel (w : World) (n g : Nat) (v107 : Value) (wr : World) : Prop := ∃ i, i + g = n ∧ v107 = .int .i64 (i : Nat) ∧ ∃ m, wr = w.drewN m
set_option maxRecDepth 100000 in
set_option maxHeartbeats 4000000 in
theorem berBack_walk (I : World → Prop) (K : BerOk2 I) (ao : Option Addr) (len cap : Nat) (ns : Nat → Int) (b : List UInt8) (hb : b.length ≤ 140737488351232) (n : Int) (n0 : -9223372036854775808 ≤ n) (n1 : n ≤ 9223372036854775807) (w : World) (ha : Nums .i64 w ao len ns) (hw : I w) :
    Calls Try.prog 4 #[.slice ao len cap, .string (bs b), .int .i64 n] w fun e w' => e = .returned (.bool true) ∧ Below w.heap.size w w' := by
  have HK := Lib.hid K.keep
  have HW := Lib.hid (K.works w hw)
  have hlen := ha.1
  have HA := Lib.hid ha
  clear ha
  by_cases h : 300 < b.length ∨ (b.length ≤ 300 ∧ 30 < len)
  · rcases h with h1 | ⟨h1, h2⟩
    · have h1' : (300 : Int) < ((b.length : Nat) : Int) := by omega
      clear K
      go_enter Try.func4, Try.ntmps4
      go_wp2_with fail
      refine HW.out.mono ?_
      rintro e w1 ⟨rfl, b1⟩
      go_wp2
      go_ret
      exact ⟨rfl, b1⟩
    · have h1' : ((b.length : Nat) : Int) ≤ 300 := by omega
      have h2' : (30 : Int) < ((len : Nat) : Int) := by omega
      clear K
      go_enter Try.func4, Try.ntmps4
      go_wp2_with fail
      refine HW.out.mono ?_
      rintro e w1 ⟨rfl, b1⟩
      go_wp2
      go_ret
      exact ⟨rfl, b1⟩
  · have h1 : ((b.length : Nat) : Int) ≤ 300 := by omega
    have h2 : ((len : Nat) : Int) ≤ 30 := by omega
    have hbl : b.length ≤ 300 := by omega
    have hl30 : len ≤ 30 := by omega
    clear h
    have HWr := Lib.hid (fun t w1 ht h2 (h : I w1) => K.toBerOk.wrapOk.2 t b w1 ht h2 (by omega) h)
    have HNx := Lib.hid (fun t w1 ht h2 (h : I w1) => K.next t b b w1 ht h2 hbl hbl h)
    have HPt := Lib.hid (fun w1 (h : I w1) => K.parts (wl ns b len) w1 (wl_ok ns b hbl len) (by rw [wl_len]; exact hl30) h)
    have HPn := Lib.hid (fun w1 (h : I w1) => K.putn n w1 n0 n1 h)
    have hpo := pn_ok n n0 n1
    have HNu := Lib.hid (fun w1 (h : I w1) => K.number (pn n) w1 hpo.1 h)
    have hn2 := hpo.2.1
    rw [hn2] at HNu
    have HPu := Lib.hid (fun w1 (h : I w1) => K.putu (u64 n) w1 (u64_lt n) h)
    have huo := un_ok (u64 n) (u64_lt n)
    have HUu := Lib.hid (fun w1 (h : I w1) => K.unsigned (un (u64 n)) w1 huo.1 h)
    rw [huo.2] at HUu
    have hu : IntKind.u64.wrap n = ((u64 n : Nat) : Int) := by
      unfold u64; simp [IntKind.wrap, IntKind.signed, IntKind.bits]; omega
    have HU := Lib.hid hu
    obtain ⟨i0, hi, hz0, hz1, hz2⟩ := (show ∃ i, Try.prog.info? 34 = some i ∧ i.zero = some (.agg #[.int .i64 0, .string .empty]) ∧ i.size = 2 ∧ i.bytes = 24 by
      obtain ⟨i, h1, h2⟩ := Option.map_eq_some_iff.1 part_info
      simp only [Prod.mk.injEq] at h2
      exact ⟨i, h1, h2.1, h2.2.1, h2.2.2⟩)
    clear K hpo hn2 huo hu
    go_enter Try.func4, Try.ntmps4
    go_wp2_with fail
    refine HW.out.mono ?_
    rintro e w1 ⟨rfl, b1⟩
    go_wp2
    go_loopg [7, 8, 35] len (fun g v7 v8 v35 wr => BbRel w ns b len g v7 v8 v35 wr)
    case atStart => exact ⟨0, by omega, rfl, rfl, OwnP.nil _ _ _, b1, by simp [wl, puts]⟩
    case round =>
      obtain ⟨i, hig, rfl, rfl, ho, hbr, hpl⟩ := hrel
      obtain ⟨hlen2, hel, hbd⟩ := HA.out
      cases gk with
      | succ g =>
        have hlt : i < len := by omega
        rcases hel with h | ⟨bk, off, rfl, hrow⟩
        · omega
        · have hrow' := hrow.below hbr (Nat.le_refl _)
          have hcell := hrow'.2 i hlt
          simp only [] at hcell
          obtain ⟨wf0, wf1⟩ := wf_i64 (hbd i)
          have HB := Lib.hid (fun w2 => below_walk (ns i) 256 wf0 wf1 (by omega) (by omega) w2)
          have hbb := belowN_bounds (ns i) 256 (by omega)
          have htg : ((tgN (ns i) : Nat) : Int) = if belowN (ns i) 256 % 32 = 31 then belowN (ns i) 256 - 1 else belowN (ns i) 256 := by
            unfold tgN
            by_cases h1 : belowN (ns i) 256 % 32 = 31
            · rw [if_pos h1, if_pos h1]; omega
            · rw [if_neg h1, if_neg h1]; omega
          have htk := tgN_ok (ns i)
          have HWS := Lib.hid (wl_succ ns b i)
          have HWL := Lib.hid (wl_len ns b i)
          generalize belowN (ns i) 256 = y at *
          generalize tgN (ns i) = T at *
          have hW := fun w2 (h : I w2) => HWr.out T w2 htk.1 htk.2 h
          have hX := fun w2 (h : I w2) => HNx.out T w2 htk.1 htk.2 h
          have HWx := Lib.hid hW
          have HXx := Lib.hid hX
          have hpll := put_len T b
          have hsl := short_le b.length
          have hpb : (put T b).length ≤ 310 := by omega
          have HPS := Lib.hid (show puts (wl ns b i ++ [(T, b)]) = puts (wl ns b i) ++ put T b by rw [puts_app, puts_one])
          clear hbd hrow hrow' hW hX hpll hsl
          generalize put T b = PT at *
          generalize puts (wl ns b i) = ALL at *
          have hcase : (y = (T : Int) + 1 ∧ ((y % 32 == 31) = true)) ∨ (y = (T : Int) ∧ ((y % 32 == 31) = false)) := by
            by_cases h1 : y % 32 = 31
            · rw [if_pos h1] at htg; exact .inl ⟨by omega, by rw [beq_iff_eq]; exact h1⟩
            · rw [if_neg h1] at htg; exact .inr ⟨by omega, beq_eq_false_iff_ne.2 h1⟩
          have hT := htk.2
          have hall : ALL.length ≤ 10000 := by omega
          have sbn : (b != b) = false := by simp
          clear htg htk hbb
          rcases hcase with ⟨rfl, hc⟩ | ⟨rfl, hc⟩
          all_goals
            go_wp2_with fail
            refine (HB.out _).mono ?_
            rintro e x1 ⟨rfl, rfl⟩
            go_wp2_with fail
            refine (HWx.out _ (HK.out _ _ hw hbr)).mono ?_
            rintro e w2 ⟨rfl, k2⟩
            have ho2 := ho.below k2
            have hb2 := hbr.trans (k2.mono hbr.size)
            clear k2 ho hbr hcell
            go_wp2_with fail
            refine (HXx.out _ (HK.out _ _ hw hb2)).mono ?_
            rintro e w3 ⟨rfl, k3⟩
            have ho3 := ho2.below k3
            have hb3 := hb2.trans (k3.mono hb2.size)
            clear k3 ho2 hb2
            go_wp2_with (at_builtin; refine wpList_append_own _ rfl _ _ 31 rfl w.heap.size 34 i0 (.agg #[.int .i64 0, .string .empty]) 2 24 Try.underlying31 hi hz0 hz1 hz2 rfl (by decide) _ _ _ rfl (World.ownsRow.alloc (World.ownsRow.alloc ho3 _) _) _ 1 1 [.int .i64 (T : Nat), .string (bs b)] rfl rfl ?c1 ?c2 ?c3 ?c4 ?c5 ?_)
            case c1 =>
              have hrn := rowNew (w3.alloc (.cells #[.int .i64 (T : Nat), .string (bs b)] 34)) (.cells #[.int .i64 (T : Nat), .string (bs b)] 34)
              rw [show (w3.alloc (.cells #[.int .i64 (T : Nat), .string (bs b)] 34)).heap.size = w3.heap.size + 1 by simp] at hrn
              intro j u hj
              match j, hj with
              | 0, hj => simp at hj; subst hj; exact cellRow hrn 0
              | 1, hj => simp at hj; subst hj; exact cellRow hrn 1
              | j + 2, hj => simp at hj
            case c2 =>
              intro u hu
              simp at hu
              rcases hu with rfl | rfl
              · rfl
              · rfl
            case c3 => have := HWL.out; unfold maxLen; omega
            case c4 => have := HWL.out; omega
            case c5 => have := hb3.size; simp; omega
            intro v' w4 hown' hgrow _
            have hb4 := ((hb3.alloc (by have := hb3.size; omega) (.cells #[.int .i64 (T : Nat), .string (bs b)] 34)).alloc (by have := hb3.size; simp; omega) (.cells #[.int .i64 (T : Nat), .string (bs b)] 34)).grown hgrow (by have := hb3.size; simp; omega) (fun k hk => (World.ownsRow.lt ho3 k hk).1)
            have ho4 : OwnP w4 w.heap.size 34 v' (wl ns b i ++ [(T, b)]) := OwnP.put hown'
            clear hown' hgrow ho3 hb3
            have hpl2 : (ALL ++ PT).length ≤ (i + 1) * 310 := by rw [List.length_append]; omega
            go_wp2
            go_roundg g
            case measure => omega
            case rel => exact ⟨i + 1, by omega, by rw [HWS.out, HPS.out], by simp, by rw [HWS.out]; exact ho4, hb4, by rw [HWS.out, HPS.out]; exact hpl2⟩
      | zero =>
        obtain rfl : i = len := by omega
        have hwl := wl_len ns b i
        generalize wl ns b i = ps at *
        have HLN := Lib.hid hwl
        clear hel hbd hig hwl HA hlen2
        generalize puts ps = ALL at *
        go_wp2_with fail
        refine (HPt.out wr (HK.out _ _ hw hbr)).mono ?_
        rintro e w2 ⟨v, rfl, o2, d⟩
        have hb2 := hbr.trans (d.mono hbr.size)
        have ho2 := ho.below d
        obtain ⟨ao2, cap2, rfl, hf2⟩ := o2.form
        obtain ⟨ao3, cap3, rfl, hf3⟩ := ho2.form
        rw [HLN.out] at hf2 hf3 ⊢
        have HF2 := Lib.hid hf2
        have HF3 := Lib.hid hf3
        clear d ho ho2 o2 hbr hf2 hf3
        have snn : (((i : Nat) : Int) != ((i : Nat) : Int)) = false := by simp
        go_wp2
        go_loopg [107] i (fun g v107 wr => BcRel w2 i g v107 wr)
        case atStart => exact ⟨0, by omega, rfl, 0, rfl⟩
        case round =>
          obtain ⟨j, hjg, rfl, m, rfl⟩ := hrel
          have hb3 := Below_drewNb hb2 m
          cases gk with
          | zero =>
            obtain rfl : j = i := by omega
            clear HF2 HF3 hjg hb2
            generalize w2.drewN m = w3 at hb3 ⊢
            have HPNx := Lib.hid (HPn.out w3 (HK.out _ _ hw hb3))
            have huu := HU.out
            generalize Go.Proofs.Ytepgkoafjeacnaa.u64 n = U at *
            have hcu : ((U : Nat) : Int) = (U : Nat) := rfl
            generalize pn n = PN at *
            generalize un U = UN at *
            go_wp2_with fail
            refine HPNx.out.mono ?_
            rintro e w4 ⟨rfl, d⟩
            have b4 := hb3.trans (d.mono hb3.size)
            clear d
            go_wp2_with fail
            refine (HNu.out w4 (HK.out _ _ hw b4)).mono ?_
            rintro e w5 ⟨rfl, d⟩
            have b5 := b4.trans (d.mono b4.size)
            clear d
            go_wp2_with fail
            refine (HPu.out w5 (HK.out _ _ hw b5)).mono ?_
            rintro e w6 ⟨rfl, d⟩
            have b6 := b5.trans (d.mono b5.size)
            clear d
            go_wp2_with fail
            refine (HUu.out w6 (HK.out _ _ hw b6)).mono ?_
            rintro e w7 ⟨rfl, d⟩
            have b7 := b6.trans (d.mono b6.size)
            clear d
            go_wp2
            go_ret
            exact ⟨rfl, b7⟩
          | succ g =>
            have hjl : j < i := by omega
            rcases HF2.out with h0 | ⟨g2, rfl, _, _, hc2⟩
            · omega
            · rcases HF3.out with h0 | ⟨g3, rfl, _, _, hc3⟩
              · omega
              · have c1 : (w2.drewN m).cell? ⟨g2, j * 2, none⟩ = some (.int .i64 ((ps.getD j (0, [])).1 : Nat)) := (hc2 j hjl).1
                have c2 : (w2.drewN m).cell? ⟨g2, j * 2 + 1, none⟩ = some (.string (bs (ps.getD j (0, [])).2)) := (hc2 j hjl).2
                have c3 : (w2.drewN m).cell? ⟨g3, j * 2, none⟩ = some (.int .i64 ((ps.getD j (0, [])).1 : Nat)) := (hc3 j hjl).1
                have c4 : (w2.drewN m).cell? ⟨g3, j * 2 + 1, none⟩ = some (.string (bs (ps.getD j (0, [])).2)) := (hc3 j hjl).2
                have HDD := Lib.hid (show ∀ k, (w2.drewN m).drewN k = w2.drewN (m + k) from fun k => by unfold World.drewN; simp [Nat.add_assoc])
                generalize w2.drewN m = w5 at c1 c2 c3 c4 HDD hb3 ⊢
                generalize (ps.getD j (0, [])).1 = X at *
                generalize (ps.getD j (0, [])).2 = Y at *
                have sY : (Y != Y) = false := by simp
                have sX : (((X : Nat) : Int) != ((X : Nat) : Int)) = false := by simp
                clear hc2 hc3 HF2 HF3
                go_wp2_with fail
                go_quiet (fail)
                go_wp2
                go_roundg g
                case measure => omega
                case rel => exact ⟨j + 1, by omega, by simp, m + nq, HDD.out nq⟩

theorem works_vals : whC [2, 130, 0, 1, 5] = [2, 1, 5] ∧ whE [2, 130, 0, 1, 5] = 0 ∧ put 2 [5] ++ [] = [2, 1, 5] ∧ nOk [5] = true ∧ nv [5] = 5 ∧ isTag 2 = true := by decide +kernel
theorem works_of (I : World → Prop) (keep : ∀ a b, I a → Below a.heap.size a b → I b)
    (canon : ∀ (l : List UInt8) (w : World), l.length ≤ 30000 → I w → Calls Try.prog 20 #[.string (bs l)] w fun e w' => e = .returned (.tuple #[.string (bs (whC l)), .int .i64 (whE l : Nat)]) ∧ Below w.heap.size w w')
    (next : ∀ (t : Nat) (b r : List UInt8) (w : World), isTag t = true → t < 256 → b.length ≤ 300 → r.length ≤ 300 → I w → Calls Try.prog 15 #[.string (bs (put t b ++ r))] w fun e w' => e = .returned (.tuple #[.agg #[.int .i64 t, .string (bs b)], .string (bs r), .int .i64 0]) ∧ Below w.heap.size w w')
    (number : ∀ (l : List UInt8) (w : World), nOk l = true → I w → Calls Try.prog 17 #[.string (bs l)] w fun e w' => e = .returned (.tuple #[.int .i64 (nv l), .int .i64 0]) ∧ Below w.heap.size w w')
    (w : World) (hw : I w) : Calls Try.prog 7 #[] w fun e w' => e = .returned (.bool true) ∧ Below w.heap.size w w' := by
  obtain ⟨v1, v2, v3, v4, v5, v6⟩ := works_vals
  have hA := canon [2, 130, 0, 1, 5] w (by simp) hw
  rw [v1, v2] at hA
  have hB := fun w1 (h : I w1) => next 2 [5] [] w1 v6 (by omega) (by simp) (by simp) h
  rw [v3] at hB
  have hC := fun w1 (h : I w1) => number [5] w1 v4 h
  rw [v5] at hC
  have HA := Lib.hid hA; have HB := Lib.hid hB; have HC := Lib.hid hC; have HK := Lib.hid keep
  clear hA hB hC keep canon next number v1 v2 v3 v4 v5 v6
  go_enter Try.func7, Try.ntmps7
  go_wp2_with fail
  refine HA.out.mono ?_
  rintro e w1 ⟨rfl, b1⟩
  go_wp2_with fail
  refine (HB.out w1 (HK.out _ _ hw b1)).mono ?_
  rintro e w2 ⟨rfl, d⟩
  have b2 := b1.trans (d.mono b1.size)
  clear d
  go_wp2_with fail
  refine (HC.out _ (HK.out _ _ hw (b2.alloc b2.size _))).mono ?_
  rintro e w3 ⟨rfl, d⟩
  have b3 := (b2.alloc b2.size _).trans (d.mono (b2.alloc b2.size _).size)
  clear d
  go_wp2
  go_ret
  exact ⟨rfl, b3⟩
end Go.Proofs.Ytepgkoafjeacnaa
