/- OidWrites, walked on calls that keep their word. -/
import Derived.Test.YtanainpapcblfaaDoorOidI
namespace Go.Proofs.YtanainpapcblfaaDoor
open Go.ChangeShapes Go.WideShapes Go.ChangeAt Go.RowKit K O6
set_option linter.unusedVariables false

theorem holdJ {p : Prop} (h : Hid p) : p := h.out
set_option maxRecDepth 100000 in
set_option maxHeartbeats 4000000 in
theorem oidWrites_walk (I : World → Prop) (K : OidOk I) (ao : Option Addr) (len cap : Nat) (ns : Nat → Int) (hlen : len ≤ 140737488351232) (hsh : (ao = none ∧ len = 0 ∧ cap = 0) ∨ ∃ a, ao = some a) (x y : List UInt8) (hx : x.length ≤ 140737488351232) (hy : y.length ≤ 140737488351232) (z : Int) (z0 : -9223372036854775808 ≤ z) (z1 : z ≤ 9223372036854775807) (w : World) (ha : RdZ w ao len ns) (hw : I w) :
    Calls Tryd.prog 4 #[.slice ao len cap, .agg #[.string (bs x), .string (bs y)], .int .i64 z] w fun e w' => e = .returned (.bool true) ∧ Below w.heap.size w w' := by
  have HW := Lib.hid (fun w1 (h : I w1) => K.works w1 h)
  have HK := Lib.hid K.keep
  by_cases h : 300 < len ∨ (len ≤ 300 ∧ 3000 < x.length) ∨ (len ≤ 300 ∧ x.length ≤ 3000 ∧ 3000 < y.length)
  · have hcs : (300 : Int) < ((len : Nat) : Int) ∨ (((len : Nat) : Int) ≤ 300 ∧ (3000 : Int) < ((x.length : Nat) : Int)) ∨ (((len : Nat) : Int) ≤ 300 ∧ ((x.length : Nat) : Int) ≤ 3000 ∧ (3000 : Int) < ((y.length : Nat) : Int)) := by omega
    clear h K ha hsh
    rcases hcs with h1 | ⟨h1, h2⟩ | ⟨h1, h2, h3⟩
    all_goals
      go_enter Tryd.func4, Tryd.ntmps4
      go_wp2_with fail
      have c0 : (w.alloc (.cells #[.string (bs x), .string (bs y)] 32)).cell? ⟨w.heap.size, 0, none⟩ = some (.string (bs x)) := cellRow (rowNew w _) 0
      have c1 : (w.alloc (.cells #[.string (bs x), .string (bs y)] 32)).cell? ⟨w.heap.size, 1, none⟩ = some (.string (bs y)) := cellRow (rowNew w _) 1
      go_quiet (fail)
      have b1 : Below w.heap.size w ((w.alloc (.cells #[.string (bs x), .string (bs y)] 32)).drewN nq) := Below_drewNg ((Below.refl _ _).alloc (Nat.le_refl _) _) nq
      go_wp2_with fail
      refine (HW.out _ (HK.out _ _ hw b1)).mono ?_
      rintro e w2 ⟨rfl, d⟩
      go_wp2
      go_ret
      exact ⟨rfl, b1.trans (d.mono b1.size)⟩
  · have h1 : ((len : Nat) : Int) ≤ 300 := by omega
    have h2 : ((x.length : Nat) : Int) ≤ 3000 := by omega
    have h3 : ((y.length : Nat) : Int) ≤ 3000 := by omega
    have hl300 : len ≤ 300 := by omega
    have HT := Lib.hid (fun a cp w1 (hr : RdZ w1 a len ns) (h : I w1) => K.text a len cp ns w1 (csZ len ns) hlen hr isZ_cs h)
    have HTq := Lib.hid (fun a cp w1 (hr : RdZ w1 a len ns) => qtext_walk a len cp ns hlen w1 hr (csZ len ns) isZ_cs)
    have HC := Lib.hid (fun w1 (h : I w1) => K.child x z w1 (by omega) z0 z1 h)
    have HCq := Lib.hid (fun w1 => qchild_walk x hx z z0 z1 w1)
    have HR := Lib.hid (fun w1 (h : I w1) => K.rest x y w1 (by omega) (by omega) h)
    have HRq := Lib.hid (fun w1 => qrest_walk x y hx hy w1)
    have HI := Lib.hid (fun w1 (h : I w1) => K.within x y w1 (by omega) (by omega) h)
    have HIq := Lib.hid (fun w1 => qwithin_walk x y hx hy w1)
    have HL := Lib.hid (fun w1 (h : I w1) => K.less x y w1 (by omega) (by omega) h)
    have HLq := Lib.hid (fun w1 => qless_walk x y hx hy w1)
    generalize (if isZ len ns = true then put (csZ len ns) else []) = t1 at *
    generalize (if isZ len ns = true then 0 else 60) = t2 at *
    generalize chS x z = t3 at *
    generalize chE x z = t4 at *
    generalize rsS x y = t5 at *
    generalize rsE x y = t6 at *
    generalize wi x y = t7 at *
    generalize lsZ x y = t8 at *
    have s1 : (t1 == t1) = true := by simp
    have s3 : (t3 == t3) = true := by simp
    have s5 : (t5 == t5) = true := by simp
    have s2 : (((t2 : Nat) : Int) == ((t2 : Nat) : Int)) = true := by simp
    have s4 : (((t4 : Nat) : Int) == ((t4 : Nat) : Int)) = true := by simp
    have s6 : (((t6 : Nat) : Int) == ((t6 : Nat) : Int)) = true := by simp
    have s7 : (t7 == t7) = true := by simp
    have s8 : (t8 == t8) = true := by simp
    obtain ⟨i0, hi, hz0, hz1, hz2⟩ := info_of int_info6
    clear h K
    go_enter Tryd.func4, Tryd.ntmps4
    go_wp2_with fail
    have c0 : (w.alloc (.cells #[.string (bs x), .string (bs y)] 32)).cell? ⟨w.heap.size, 0, none⟩ = some (.string (bs x)) := cellRow (rowNew w _) 0
    have c1 : (w.alloc (.cells #[.string (bs x), .string (bs y)] 32)).cell? ⟨w.heap.size, 1, none⟩ = some (.string (bs y)) := cellRow (rowNew w _) 1
    go_quiet (fail)
    have b1 : Below w.heap.size w ((w.alloc (.cells #[.string (bs x), .string (bs y)] 32)).drewN nq) := Below_drewNg ((Below.refl _ _).alloc (Nat.le_refl _) _) nq
    have ha1 := ha.below b1
    clear c0 c1
    generalize (w.alloc (.cells #[.string (bs x), .string (bs y)] 32)).drewN nq = w1 at *
    have hE : (w1.alloc (.cells #[] 3)).ownsRow w.heap.size 3 1 (.slice (some ⟨w1.heap.size, 0, none⟩) 0 0) 0 (zsL ns 0) := ownI_empty w1 w.heap.size 3 b1.size
    have bE := b1.alloc b1.size (.cells #[] 3)
    have HZ7 := Lib.hid (show zsL (fun i => if i = len then 7 else ns i) (len + 1) = zsL ns len ++ [.int .i64 7] by
      rw [zsL_snoc, if_pos rfl, zsL_same (g := ns) (fun i hi => by rw [if_neg (by omega)])])
    have hss : w1.heap.size < (w1.alloc (.cells #[] 3)).heap.size := by simp
    rcases hsh with ⟨rfl, hl0, hc0⟩ | ⟨a, rfl⟩
    · have HLV := Lib.hid (show Value.slice none len cap = .slice none 0 0 by rw [hl0, hc0])
      have HL0 := Lib.hid hl0
      clear hl0 hc0
      go_wp2_with (first | (at_builtin; refine wpList_append_own_none rfl _ _ 23 rfl w.heap.size 3 i0 1 Tryd.underlying23 hi _ 0 (zsL ns 0) rfl hE HLV.out ?_) | (at_builtin; refine wpList_append_own _ rfl _ _ 23 rfl w.heap.size 3 i0 (.int .i64 0) 1 8 Tryd.underlying23 hi hz0 hz1 hz2 rfl (by decide) _ _ _ rfl (World.ownsRow.alloc hE _) ⟨w1.heap.size + 1, 0, none⟩ 1 1 [.int .i64 7] rfl rfl ?c1 ?c2 ?c3 ?c4 ?c5 ?_))
      case c1 =>
        intro j u hj
        match j, hj with
        | 0, hj => simp at hj; subst hj; simp [Addr.add]
      case c2 => intro u hu; simp at hu; subst hu; rfl
      case c3 => unfold maxLen; omega
      case c4 => omega
      case c5 => have := b1.size; simp; omega
      intro v3 w3 hown3 hgrow3 _
      have b3 := (bE.alloc (by have := b1.size; simp; omega) (.cells #[.int .i64 7] 3)).grown hgrow3 (by have := b1.size; simp; omega) (fun k hk => (World.ownsRow.lt hE k hk).1)
      have h3o : w3.ownsRow w.heap.size 3 1 v3 (len + 1) (zsL (fun i => if i = len then 7 else ns i) (len + 1)) := by
        rw [HZ7.out, HL0.out]; exact hown3
      clear hown3 hgrow3
      obtain ⟨g3, cap3, rfl, hmc, hBg, hgs, hz3, hcz⟩ := own_rdz (n := len) h3o (by omega) (by omega)
      have hz4 : RdZ w3 (some ⟨g3, 0, none⟩) len ns := by
        rcases hz3 with h0 | ⟨b, off, h1, h2, h3⟩
        · exact .inl h0
        · refine .inr ⟨b, off, h1, h2, fun i hi => ?_⟩
          have := h3 i hi
          simp only [] at this
          rw [if_neg (by omega)] at this
          exact this
      have hc7 : w3.cell? ⟨g3, len, none⟩ = some (.int .i64 7) := by
        have := hcz len (by omega)
        simp only [if_true] at this
        exact this
      clear hz3 hcz h3o hE bE HZ7 hss ha1 hBg b1
      go_wp2_with fail
      refine (HT.out _ _ w3 hz4 (HK.out _ _ hw b3)).mono ?_
      rintro e w4 ⟨rfl, d⟩
      have b4 := b3.trans (d.mono b3.size)
      have hz5 := hz4.below d
      have hc7b := (d.cell (p := ⟨g3, len, none⟩) hgs).trans hc7
      have hgs4 := Nat.lt_of_lt_of_le hgs d.size
      clear d hz4 hc7 b3 hgs
      go_wp2_with fail
      refine (HTq.out _ _ w4 (ha.below b4)).mono ?_
      rintro e w5 ⟨rfl, d⟩
      have b5 := b4.trans (d.mono b4.size)
      have hz5 := hz5.below d
      have hc7b := (d.cell (p := ⟨g3, len, none⟩) hgs4).trans hc7b
      have hgs5 := Nat.lt_of_lt_of_le hgs4 d.size
      clear d hgs4
      go_wp2_with fail
      refine (HC.out w5 (HK.out _ _ hw b5)).mono ?_
      rintro e w6 ⟨rfl, d⟩
      have b6 := b5.trans (d.mono b5.size)
      have hz5 := hz5.below d
      have hc7b := (d.cell (p := ⟨g3, len, none⟩) hgs5).trans hc7b
      have hgs6 := Nat.lt_of_lt_of_le hgs5 d.size
      clear d hgs5
      go_wp2_with fail
      refine (HCq.out w6).mono ?_
      rintro e w7 ⟨rfl, d⟩
      have b7 := b6.trans (d.mono b6.size)
      have hz5 := hz5.below d
      have hc7b := (d.cell (p := ⟨g3, len, none⟩) hgs6).trans hc7b
      have hgs7 := Nat.lt_of_lt_of_le hgs6 d.size
      clear d hgs6
      go_wp2_with fail
      refine (HR.out w7 (HK.out _ _ hw b7)).mono ?_
      rintro e w8 ⟨rfl, d⟩
      have b8 := b7.trans (d.mono b7.size)
      have hz5 := hz5.below d
      have hc7b := (d.cell (p := ⟨g3, len, none⟩) hgs7).trans hc7b
      have hgs8 := Nat.lt_of_lt_of_le hgs7 d.size
      clear d hgs7
      go_wp2_with fail
      refine (HRq.out w8).mono ?_
      rintro e w9 ⟨rfl, d⟩
      have b9 := b8.trans (d.mono b8.size)
      have hz5 := hz5.below d
      have hc7b := (d.cell (p := ⟨g3, len, none⟩) hgs8).trans hc7b
      have haw := ha.below b9
      clear d hgs8 b4 b5 b6 b7 b8
      go_wp2_with fail
      refine (sameZ_walk len ns (by omega) _ _ _ _ w9 hz5 haw).mono ?_
      rintro e w10 ⟨rfl, m, rfl⟩
      have b10 := Below_drewNg b9 m
      have hc7c : (w9.drewN m).cell? ⟨g3, len, none⟩ = some (.int .i64 7) := hc7b
      generalize w9.drewN m = w10 at b10 hc7c ⊢
      clear hc7b hz5 haw b9
      go_wp2_with fail
      refine (HI.out w10 (HK.out _ _ hw b10)).mono ?_
      rintro e w11 ⟨rfl, d⟩
      have b11 := b10.trans (d.mono b10.size)
      clear d b10 hc7c
      go_wp2_with fail
      refine (HIq.out w11).mono ?_
      rintro e w12 ⟨rfl, d⟩
      have b12 := b11.trans (d.mono b11.size)
      clear d b11
      go_wp2_with fail
      refine (HL.out w12 (HK.out _ _ hw b12)).mono ?_
      rintro e w13 ⟨rfl, d⟩
      have b13 := b12.trans (d.mono b12.size)
      clear d b12
      go_wp2_with fail
      refine (HLq.out w13).mono ?_
      rintro e w14 ⟨rfl, d⟩
      have b14 := b13.trans (d.mono b13.size)
      clear d b13
      go_wp2_with fail
      refine (HW.out w14 (HK.out _ _ hw b14)).mono ?_
      rintro e w15 ⟨rfl, d⟩
      have b15 := b14.trans (d.mono b14.size)
      go_wp2
      go_ret
      exact ⟨rfl, b15⟩
    · go_wp2_with (at_builtin; refine wpList_append_own _ rfl _ _ 23 rfl w.heap.size 3 i0 (.int .i64 0) 1 8 Tryd.underlying23 hi hz0 hz1 hz2 rfl (by decide) _ _ _ rfl hE a len cap (zsL ns len) rfl (by rw [zsL_len, Nat.mul_one]) ?d1 ?d2 ?d3 ?d4 ?d5 ?_)
      case d1 =>
        intro j u hj
        have hjl : j < len := by
          rcases Nat.lt_or_ge j len with h | h
          · exact h
          · rw [List.getElem?_eq_none (by rw [zsL_len]; exact h)] at hj; cases hj
        rw [zsL_get ns len j hjl] at hj
        cases hj
        rcases ha1 with h0 | ⟨b, off, hab, hb, hc⟩
        · omega
        · cases hab
          have hadd : (Addr.add ⟨b, off, none⟩ j) = ⟨b, off + j, none⟩ := by simp only [Addr.add]; split <;> simp_all
          rw [hadd]
          exact (World.cell?_of_block (Below.heap_alloc _ _ _ hb)).trans (hc j hjl)
      case d2 => intro u hu; obtain ⟨c, _, rfl⟩ := List.mem_map.1 hu; rfl
      case d3 => unfold maxLen; omega
      case d4 => omega
      case d5 => have := b1.size; simp; omega
      intro v2 w2 hown2 hgrow2 _
      have b2 := bE.grown hgrow2 (by have := b1.size; simp; omega) (fun k hk => (World.ownsRow.lt hE k hk).1)
      have h2o : w2.ownsRow w.heap.size 3 1 v2 len (zsL ns len) := by simpa [zsL] using hown2
      clear hown2 hgrow2 hE bE hss ha1 b1
      obtain ⟨aq, nq2, cq, rfl⟩ : ∃ aq nq2 cq, v2 = .slice aq nq2 cq := by
        rcases h2o.2 with ⟨hv, _⟩ | ⟨gq, capq, cur, hv, _⟩
        · exact ⟨_, _, _, hv⟩
        · exact ⟨_, _, _, hv⟩
      go_wp2_with (at_builtin; refine wpList_append_own _ rfl _ _ 23 rfl w.heap.size 3 i0 (.int .i64 0) 1 8 Tryd.underlying23 hi hz0 hz1 hz2 rfl (by decide) _ _ _ rfl (World.ownsRow.alloc h2o _) ⟨w2.heap.size, 0, none⟩ 1 1 [.int .i64 7] rfl rfl ?e1 ?e2 ?e3 ?e4 ?e5 ?_)
      case e1 =>
        intro j u hj
        match j, hj with
        | 0, hj => simp at hj; subst hj; simp [Addr.add]
      case e2 => intro u hu; simp at hu; subst hu; rfl
      case e3 => unfold maxLen; omega
      case e4 => omega
      case e5 => have := b2.size; simp; omega
      intro v3 w3 hown3 hgrow3 _
      have b3 := (b2.alloc b2.size (.cells #[.int .i64 7] 3)).grown hgrow3 (by have := b2.size; simp; omega) (fun k hk => (World.ownsRow.lt h2o k hk).1)
      have h3o : w3.ownsRow w.heap.size 3 1 v3 (len + 1) (zsL (fun i => if i = len then 7 else ns i) (len + 1)) := by
        rw [HZ7.out]; exact hown3
      clear hown3 hgrow3 h2o b2
      obtain ⟨g3, cap3, rfl, hmc, hBg, hgs, hz3, hcz⟩ := own_rdz (n := len) h3o (by omega) (by omega)
      have hz4 : RdZ w3 (some ⟨g3, 0, none⟩) len ns := by
        rcases hz3 with h0 | ⟨b, off, h1, h2, h3⟩
        · exact .inl h0
        · refine .inr ⟨b, off, h1, h2, fun i hi => ?_⟩
          have := h3 i hi
          simp only [] at this
          rw [if_neg (by omega)] at this
          exact this
      have hc7 : w3.cell? ⟨g3, len, none⟩ = some (.int .i64 7) := by
        have := hcz len (by omega)
        simp only [if_true] at this
        exact this
      clear hz3 hcz h3o HZ7 hBg
      go_wp2_with fail
      refine (HT.out _ _ w3 hz4 (HK.out _ _ hw b3)).mono ?_
      rintro e w4 ⟨rfl, d⟩
      have b4 := b3.trans (d.mono b3.size)
      have hz5 := hz4.below d
      have hc7b := (d.cell (p := ⟨g3, len, none⟩) hgs).trans hc7
      have hgs4 := Nat.lt_of_lt_of_le hgs d.size
      clear d hz4 hc7 b3 hgs
      go_wp2_with fail
      refine (HTq.out _ _ w4 (ha.below b4)).mono ?_
      rintro e w5 ⟨rfl, d⟩
      have b5 := b4.trans (d.mono b4.size)
      have hz5 := hz5.below d
      have hc7b := (d.cell (p := ⟨g3, len, none⟩) hgs4).trans hc7b
      have hgs5 := Nat.lt_of_lt_of_le hgs4 d.size
      clear d hgs4
      go_wp2_with fail
      refine (HC.out w5 (HK.out _ _ hw b5)).mono ?_
      rintro e w6 ⟨rfl, d⟩
      have b6 := b5.trans (d.mono b5.size)
      have hz5 := hz5.below d
      have hc7b := (d.cell (p := ⟨g3, len, none⟩) hgs5).trans hc7b
      have hgs6 := Nat.lt_of_lt_of_le hgs5 d.size
      clear d hgs5
      go_wp2_with fail
      refine (HCq.out w6).mono ?_
      rintro e w7 ⟨rfl, d⟩
      have b7 := b6.trans (d.mono b6.size)
      have hz5 := hz5.below d
      have hc7b := (d.cell (p := ⟨g3, len, none⟩) hgs6).trans hc7b
      have hgs7 := Nat.lt_of_lt_of_le hgs6 d.size
      clear d hgs6
      go_wp2_with fail
      refine (HR.out w7 (HK.out _ _ hw b7)).mono ?_
      rintro e w8 ⟨rfl, d⟩
      have b8 := b7.trans (d.mono b7.size)
      have hz5 := hz5.below d
      have hc7b := (d.cell (p := ⟨g3, len, none⟩) hgs7).trans hc7b
      have hgs8 := Nat.lt_of_lt_of_le hgs7 d.size
      clear d hgs7
      go_wp2_with fail
      refine (HRq.out w8).mono ?_
      rintro e w9 ⟨rfl, d⟩
      have b9 := b8.trans (d.mono b8.size)
      have hz5 := hz5.below d
      have hc7b := (d.cell (p := ⟨g3, len, none⟩) hgs8).trans hc7b
      have haw := ha.below b9
      clear d hgs8 b4 b5 b6 b7 b8
      go_wp2_with fail
      refine (sameZ_walk len ns (by omega) _ _ _ _ w9 hz5 haw).mono ?_
      rintro e w10 ⟨rfl, m, rfl⟩
      have b10 := Below_drewNg b9 m
      have hc7c : (w9.drewN m).cell? ⟨g3, len, none⟩ = some (.int .i64 7) := hc7b
      generalize w9.drewN m = w10 at b10 hc7c ⊢
      clear hc7b hz5 haw b9
      go_wp2_with fail
      refine (HI.out w10 (HK.out _ _ hw b10)).mono ?_
      rintro e w11 ⟨rfl, d⟩
      have b11 := b10.trans (d.mono b10.size)
      clear d b10 hc7c
      go_wp2_with fail
      refine (HIq.out w11).mono ?_
      rintro e w12 ⟨rfl, d⟩
      have b12 := b11.trans (d.mono b11.size)
      clear d b11
      go_wp2_with fail
      refine (HL.out w12 (HK.out _ _ hw b12)).mono ?_
      rintro e w13 ⟨rfl, d⟩
      have b13 := b12.trans (d.mono b12.size)
      clear d b12
      go_wp2_with fail
      refine (HLq.out w13).mono ?_
      rintro e w14 ⟨rfl, d⟩
      have b14 := b13.trans (d.mono b13.size)
      clear d b13
      go_wp2_with fail
      refine (HW.out w14 (HK.out _ _ hw b14)).mono ?_
      rintro e w15 ⟨rfl, d⟩
      have b15 := b14.trans (d.mono b14.size)
      go_wp2
      go_ret
      exact ⟨rfl, b15⟩
end Go.Proofs.YtanainpapcblfaaDoor
