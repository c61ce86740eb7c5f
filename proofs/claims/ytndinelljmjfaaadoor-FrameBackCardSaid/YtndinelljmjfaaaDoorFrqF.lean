/- The program's Feed, walked. -/
import Derived.Test.YtndinelljmjfaaaDoorFrqE
namespace Go.Proofs.YtndinelljmjfaaaDoor
open Go.ChangeShapes Go.WideShapes Go.ChangeAt Go.RowKit K F12
set_option linter.unusedVariables false

theorem ownS_keep12 {w w' : World} {B : Nat} {T : TypeId} {v : Value} {ls : List (List UInt8)} (h : OwnS w B T v ls) {S : List Nat} (k : Kp S w w') (hn : ∀ g, v.ownBlock = some g → g ∉ S) : OwnS w' B T v ls := by
  refine ⟨h.1, ?_⟩
  rcases h.2 with h0 | ⟨g, cap, cur, h1, h2, h3, h4⟩
  · exact .inl h0
  · exact .inr ⟨g, cap, cur, h1, h2, k.heap h3 (hn g (by rw [h1]; rfl)), h4⟩
theorem ownS_out {w : World} {B b : Nat} {mv v : Value} {ls : List (List UInt8)} {bt : List UInt8} (h : OwnS w B 9 mv ls) (o : OwnY w 0 v bt) (hb : b < B) : ∀ g, mv.ownBlock = some g → g ∉ b :: v.ownBlock.toList := by
  intro g hg hm
  rcases List.mem_cons.1 hm with h1 | h1
  · have := (World.ownsRow.lt h g hg).1
    omega
  · exact ownS_ne h o g hg (Option.mem_toList.1 h1)
theorem ownS_b {w : World} {B b : Nat} {mv : Value} {ls : List (List UInt8)} (h : OwnS w B 9 mv ls) (hb : b < B) : ∀ g, mv.ownBlock = some g → g ∉ [b] := by
  intro g hg hm
  have h1 := List.mem_singleton.1 hm
  have := (World.ownsRow.lt h g hg).1
  omega
theorem kp_more {b : Nat} {v v0 : Value} {w wr w' : World} (k : Kp (b :: v0.ownBlock.toList) w wr) (k2 : Kp (b :: v.ownBlock.toList) wr w') (hv : ∀ g, v.ownBlock = some g → v0.ownBlock = some g ∨ w.heap.size ≤ g) : Kp (b :: v0.ownBlock.toList) w w' := by
  refine ⟨k2.os.trans k.os, k2.tape.trans k.tape, k2.output.trans k.output, Nat.le_trans k.size k2.size, fun i hi hn => ?_⟩
  refine (k2.block i (Nat.lt_of_lt_of_le hi k.size) (fun hm => ?_)).trans (k.block i hi hn)
  rcases List.mem_cons.1 hm with h | h
  · exact hn (by rw [h]; simp)
  · rcases hv i (Option.mem_toList.1 h) with h1 | h1
    · exact hn (by rw [h1]; simp)
    · omega
theorem kp_one {b : Nat} {v0 : Value} {w wr w' : World} (k : Kp (b :: v0.ownBlock.toList) w wr) (k2 : Kp [b] wr w') : Kp (b :: v0.ownBlock.toList) w w' := k.trans (k2.mono (by intro x hx; simp at hx; simp [hx]))
theorem ownY_b {w : World} {B b : Nat} {v : Value} {bt : List UInt8} (o : OwnY w B v bt) {cs : Array Value} {T : TypeId} {fr : Nat × Nat} (hk : w.heap[b]? = some (.cells cs T fr)) (hT : T ≠ 5) : ∀ g, v.ownBlock = some g → g ∉ [b] := by
  intro g hg hm
  have h1 := List.mem_singleton.1 hm
  subst h1
  exact o.ne hk hT hg.symm
/-- What a chunk makes of a framer that lives. -/
theorem fd_facts (st : Fs) (h0 c : List UInt8) (hs : st.s = some h0) : st.msg c = (feed st.most (h0 ++ c)).1 ∧ st.code c = (if (feed st.most (h0 ++ c)).2.isNone then 120 else 0) ∧ st.nxt c = ⟨st.most, (feed st.most (h0 ++ c)).2, st.dr⟩ := by
  unfold Fs.code Fs.msg Fs.nxt; rw [hs]; exact ⟨rfl, rfl, rfl⟩
theorem OwnY.nil12 (w : World) : OwnY w 0 (.slice none 0 0) [] := OwnY.nil w 0
theorem first48 {c : List UInt8} (hc : c ≠ []) (hf : ¬ fst1 c) (hdi : dgt (byt c 0) = true) : byt c 0 = 48 := by
  cases c with
  | nil => exact absurd rfl hc
  | cons x r =>
    have e0 : byt (x :: r) 0 = x.toNat := rfl
    unfold dgt at hdi
    simp only [decide_eq_true_eq] at hdi
    rw [e0] at hdi ⊢
    rcases Nat.lt_or_ge x.toNat 49 with h1 | h1
    · omega
    · exact absurd ⟨x, r, rfl, h1, hdi.2⟩ hf
theorem isdigit48 (w : World) : Calls Tryd.prog 24 #[.int .u8 48] w fun e w' => e = .returned (.bool true) ∧ w = w' := by
  have h := isdigit_walk 48 w
  rw [show dgt 48 = true by decide] at h
  exact h
theorem own_set12 {w : World} {B : Nat} {v : Value} {ls : List (List UInt8)} (h : OwnS w B 9 v ls) {k : Nat} {cs : Array Value} {T : TypeId} {fr : Nat × Nat} (hk : w.heap[k]? = some (.cells cs T fr)) (hT : T ≠ 9) (i : Nat) (u : Value) : OwnS (w.setCell ⟨k, i, none⟩ u) B 9 v ls := by
  refine ⟨h.1, ?_⟩
  rcases h.2 with hn | ⟨g, cap, cur, h1, h2, h3, h4⟩
  · exact .inl hn
  · refine .inr ⟨g, cap, cur, h1, h2, (Below.heap_setCell _ _ _ _ ?_).trans h3, h4⟩
    intro hgk
    have hgk' : g = k := hgk
    rw [hgk', hk] at h3
    injection h3 with h3
    injection h3 with _ h3
    exact hT h3
set_option maxRecDepth 100000 in
set_option maxHeartbeats 4000000 in
theorem feed_walk (b : Nat) (S : List Nat) (st : Fs) (c0 : List UInt8) (w : World) (h : FrR w b S st) (hl : st.s = none ∨ st.hold.length + c0.length ≤ 1000000) (hdr : st.dr ≤ 1000000000000000) :
    Calls Tryd.prog 12 #[.pointer (some ⟨b, 0, none⟩), .string (bs c0)] w (FdPost FrR w b S st c0) := by
  obtain ⟨wt, lg, ah, v0, bt, h1, h2, rfl, hm1, hm2, hd, hs⟩ := h
  have hbl : b < w.heap.size := lt_of_block h1
  cases hss : st.s with
  | none =>
    obtain ⟨rfl, rfl, rfl, rfl, rfl⟩ := hd hss
    have e1 : st.msg c0 = [] ∧ st.code c0 = 120 ∧ st.nxt c0 = ⟨st.most, none, st.dr + 1⟩ := by
      unfold Fs.code Fs.msg Fs.nxt; rw [hss]; exact ⟨rfl, rfl, rfl⟩
    rw [hss] at h1
    obtain ⟨x0, x1, x2, x3, x4, x5, x6⟩ := h1.cells
    obtain ⟨f1, f2, f3, f4, f5, f6⟩ := h1.free
    simp only [Option.isNone_none] at x1
    have HQ := Lib.hid (h1.setDr (st.dr + 1) (((st.dr : Nat) : Int) + 1) (by omega))
    have HK := Lib.hid ((Kp.refl (b :: (Value.slice none 0 0).ownBlock.toList) w).set ⟨b, 2, none⟩ (by simp) (.int .i64 (((st.dr : Nat) : Int) + 1)))
    have HE := Lib.hid e1
    clear hd hs h1 h2 e1 hl hss x0 x3 x4 x5 x6
    go_enter Tryd.func12, Tryd.ntmps12
    go_wp2_with fail
    go_step3
    go_wp2
    rw [Exit.noGoto_ret]
    go_ret2
    exact fd_end (st2 := ⟨st.most, none, st.dr + 1⟩) (cd := 120) hbl HE.out.1 HE.out.2.1 HE.out.2.2 HQ.out (OwnY.nil _ _) hm1 hm2 (fun _ => ⟨rfl, rfl, rfl, rfl, rfl⟩) (fun h e => by cases e) (fun g hg => by simp [Value.ownBlock] at hg) HK.out (OwnS.nil _ _ _)
  | some h0 =>
    obtain ⟨hps, hh0⟩ := hs h0 hss
    have HE := Lib.hid (fd_facts st h0 c0 hss)
    have hho : st.hold = h0 := by unfold Fs.hold; rw [hss]; rfl
    have hlen : h0.length + c0.length ≤ 1000000 := by
      rcases hl with hl | hl
      · rw [hss] at hl; cases hl
      · rw [← hho]; exact hl
    rw [hss] at h1
    simp only [Option.isNone_some] at h1
    have HM1 := Lib.hid hm1
    have HMX := Lib.hid hm2
    have hcl : c0.length ≤ 1000000 := by omega
    have hsl : (h0 ++ c0).length ≤ 1000000 := by rw [List.length_append]; exact hlen
    have HF0 := Lib.hid h1
    obtain ⟨x0, x1, x2, x3, x4, x5, x6⟩ := h1.cells
    have HST := Lib.hid (show PdRel b st.most st.dr (h0 ++ c0) v0 w c0.length (.string (bs c0)) (.slice none 0 0) w from ⟨c0, h0, wt, lg, ah, v0, bt, [], .slice none 0 0, rfl, rfl, rfl, by simp, by rw [List.length_append]; simp, hps, h1, h2, OwnS.nil _ _ _, Kp.refl _ _, fun g hg => .inl hg⟩)
    clear h1 h2 hd hs hss hl hps hho hh0 hm1 hm2 hlen hcl HF0 x0 x2 x3 x4 x5 x6
    generalize st.most = most at *
    generalize st.dr = dr at *
    generalize h0 ++ c0 = s0 at *
    go_enter Tryd.func12, Tryd.ntmps12
    go_wp2_with fail
    go_step3
    go_wp2_with fail
    clear x1
    go_step3
    go_wp2_with fail
    go_loopg [1, 4] c0.length (fun g v1 v4 wr => PdRel b most dr s0 v0 w g v1 v4 wr)
    case atStart => exact HST.out
    case round =>
      obtain ⟨c, h, wt, lg, ah, v, bt, outs, mv, rfl, rfl, rfl, hfe, hlo, hps, hF, hY, hM, hK, hV⟩ := hrel
      have HFE := Lib.hid hfe
      have HP := Lib.hid hps
      have HF := Lib.hid hF
      have HY := Lib.hid hY
      have HM := Lib.hid hM
      have HK := Lib.hid hK
      have HV := Lib.hid hV
      have hb2 : b < wr.heap.size := lt_of_block hF
      obtain ⟨x0, x1, x2, x3, x4, x5, x6⟩ := hF.cells
      clear hfe hF hY hM hK hV HST
      cases c with
      | nil =>
        have HS := Lib.hid hps.still
        have HF1 := Lib.hid (show feed most s0 = (outs, some h) by rw [HFE.out, List.append_nil, HS.out]; simp)
        have hh1 : h.length ≤ 1000000 := by omega
        clear x0 x2 x3 x4 x5 x6 hps
        go_wp2
        try rw [Exit.noGoto_ret]
        go_ret2
        exact fd_end (st2 := ⟨most, some h, dr⟩) (cd := 0) hbl (by rw [HE.out.1, HF1.out]) (by rw [HE.out.2.1, HF1.out]; rfl) (by rw [HE.out.2.2, HF1.out]) HF.out HY.out HM1.out HMX.out (fun e => by cases e) (fun h' e => by injection e with e; subst e; exact ⟨HP.out, hh1⟩) HV.out HK.out HM.out
      | cons b0 c1 =>
        have hcl : (b0 :: c1).length ≤ 1000000 := by omega
        generalize hcc : b0 :: c1 = c at *
        have hcn : c ≠ [] := by rw [← hcc]; simp
        have HCN := Lib.hid hcn
        clear hcn hcc
        rcases hps with ⟨rfl, rfl, rfl, rfl, rfl⟩ | ⟨rfl, rfl, ha0, hl0, hlm, hha, hhd⟩ | ⟨rfl, hb0, hlm, hha, hhd⟩
        · have hne : c.isEmpty = false := by have := HCN.out; cases c with | nil => exact absurd rfl this | cons _ _ => rfl
          have hpos : 0 < c.length := by have := HCN.out; cases c with | nil => exact absurd rfl this | cons _ _ => simp
          have hpos1 : (0 : Int) < ((c.length : Nat) : Int) := by omega
          by_cases hf : fst1 c
          · have hpd : Pd most [] 0 0 c := pd_of0 hf
            have hdi : dgt (byt c 0) = true ∧ ¬ byt c 0 = 48 := by
              obtain ⟨x, r, hc, h1, h2⟩ := hf
              have e0 : byt c 0 = x.toNat := by rw [hc]; rfl
              rw [e0]
              unfold dgt
              simp only [decide_eq_true_eq]
              omega
            have h48i : ¬ ((byt c 0 : Nat) : Int) = 48 := by omega
            have HD := Lib.hid (isdigit_walk (byt c 0))
            rw [hdi.1] at HD
            have hah1 : 0 ≤ 1000000 := by omega
            have f3 : wr.frozen? ⟨b, 3, none⟩ = false := HF.out.free.2.2.1
            have HF1b := Lib.hid (HF.out.setWt 1 1 rfl)
            have HMb := Lib.hid (own_set12 HM.out HF.out (by decide) 3 (.int .i64 1))
            have HKb := Lib.hid (HK.out.set ⟨b, 3, none⟩ (by simp) (.int .i64 1))
            have HYb := Lib.hid (HY.out.set HF.out (by decide) 3 (.int .i64 1))
            clear hdi hf x0 x1 x2 x4 x5 x6
            go_wp2_with fail
            refine (HD.out _).mono ?_
            rintro e w2 ⟨rfl, rfl⟩
            go_wp2_with fail
            clear x3 h48i HD f3
            generalize wr.setCell ⟨b, 3, none⟩ (.int .i64 1) = w1 at *
            have HL := Lib.hid (length_walk b most dr 1 0 0 v c HMX.out hpd.1 (hpd.2.2.2.imp (fun h => h.2) id) hcl hah1 w1 HF1b.out)
            unfold LnPost at HL
            cases hh : F12.hd most c 0 0 with
            | bad =>
              have HF1 := Lib.hid (show feed most s0 = (outs, none) by rw [HFE.out, pd_bad hpd hh]; simp)
              rw [hh] at HL
              clear hh hpd
              go_wp2_with fail
              refine HL.out.mono ?_
              rintro e w3 ⟨k3, rfl, q3⟩
              have HM2 := HMb
              have HK2 := HKb
              have M3 := ownS_keep12 HM2.out k3 (ownS_b HM2.out hbl)
              have HM3 := Lib.hid M3
              have HK3 := Lib.hid (kp_one HK2.out k3)
              have HQ3 := Lib.hid q3
              obtain ⟨x0, x1, x2, x3, x4, x5, x6⟩ := q3.cells
              clear x0 x2 x4 x5 x6 q3 k3 M3
              go_wp2
              try rw [Exit.noGoto_ret]
              go_ret2
              exact fd_end (st2 := ⟨most, none, dr⟩) (cd := 120) hbl (by rw [HE.out.1, HF1.out]) (by rw [HE.out.2.1, HF1.out]; rfl) (by rw [HE.out.2.2, HF1.out]) HQ3.out (OwnY.nil _ _) HM1.out HMX.out (fun e => ⟨rfl, rfl, rfl, rfl, rfl⟩) (fun h' e => by cases e) (fun g hg => by simp [Value.ownBlock] at hg) HK3.out HM3.out
            | more =>
              obtain ⟨hf1, hp3⟩ := pd_more hpd hh
              have HF1 := Lib.hid (show feed most s0 = (outs, some ([] ++ c)) by rw [HFE.out, hf1]; simp)
              rw [hh] at HL
              have HP3 := Lib.hid hp3
              have hh3 : ([] ++ c).length ≤ 1000000 := by rw [List.length_append]; omega
              clear hh hpd hf1 hp3
              go_wp2_with fail
              refine HL.out.mono ?_
              rintro e w3 ⟨k3, rfl, q3⟩
              have M3 := ownS_keep12 HMb.out k3 (ownS_b HMb.out hbl)
              have HM3 := Lib.hid M3
              have HK3 := Lib.hid (kp_one HKb.out k3)
              have HY3 := Lib.hid (HYb.out.keep k3 (ownY_b HYb.out HF1b.out (by decide)))
              have HQ3 := Lib.hid q3
              obtain ⟨x0, x1, x2, x3, x4, x5, x6⟩ := q3.cells
              clear x0 x2 x4 x5 x6 q3 k3 M3
              go_wp2
              try rw [Exit.noGoto_ret]
              go_ret2
              exact fd_end (st2 := ⟨most, some ([] ++ c), dr⟩) (cd := 0) hbl (by rw [HE.out.1, HF1.out]) (by rw [HE.out.2.1, HF1.out]; rfl) (by rw [HE.out.2.2, HF1.out]) HQ3.out HY3.out HM1.out HMX.out (fun e => by cases e) (fun h' e => by injection e with e; subst e; exact ⟨HP3.out, hh3⟩) HV.out HK3.out HM3.out
            | num m k r =>
              obtain ⟨qq, hcq, hkq, hp2⟩ := pd_num hpd hh
              have hqr : c.length = qq.length + r.length := by rw [hcq, List.length_append]
              have hqp : 0 < qq.length := by
                have := hd_rest most c 0 0 m k r hh
                omega
              have hfe2 : feed most s0 = (outs ++ (feed most (([] ++ qq) ++ r)).1, (feed most (([] ++ qq) ++ r)).2) := by rw [HFE.out, hcq, List.append_assoc]
              rw [hh] at HL
              have hHL := hpd.2.1
              clear hh hpd hcq
              go_wp2_with fail
              refine HL.out.mono ?_
              rintro e w2 ⟨k3, rfl, q3⟩
              have HM2 := Lib.hid (ownS_keep12 HMb.out k3 (ownS_b HMb.out hbl))
              have HK2 := Lib.hid (kp_one HKb.out k3)
              have HY2 := Lib.hid (HYb.out.keep k3 (ownY_b HYb.out HF1b.out (by decide)))
              have HF2 := Lib.hid q3
              have HP2 := Lib.hid hp2
              have HV2 := HV
              obtain ⟨v2, hv2⟩ : ∃ x, x = v := ⟨_, rfl⟩
              obtain ⟨h2, hh2⟩ : ∃ x, x = [] ++ qq := ⟨_, rfl⟩
              obtain ⟨bt2, hb2⟩ : ∃ x : List UInt8, x = [] := ⟨_, rfl⟩
              have hl2 : h2.length = 0 + qq.length := by have := (HP2.out).len.1; rw [← hh2] at this; simp at this; omega
              rw [← hh2] at hfe2 HP2
              rw [← hv2] at HF2 HY2 HV2
              rw [← hb2] at HP2 HY2
              have hlg2 : m ≤ 65535 := by have := hp2.len.2.1; have := HMX.out; omega
              have hbt2 : bt2.length < m := by
                rcases hp2 with ⟨h0, _⟩ | ⟨h0, _⟩ | ⟨_, h1, _⟩
                · omega
                · omega
                · rw [hb2]; exact h1
              have hr2 : r.length ≤ 1000000 := by omega
              have hmeas : (r.drop (m - bt2.length)).length < c.length := by rw [List.length_drop]; omega
              have hlo2 : outs.length + h2.length + r.length ≤ s0.length := by omega
              obtain ⟨x0, x1, x2, x3, x4, x5, x6⟩ := q3.cells
              clear k3 q3 hp2 hv2 hh2 hb2 x0 x1 x2 x4 x5 x6
              go_wp2_with fail
              clear x3
              have HT := Lib.hid (take_walk b most dr m k v2 bt2 r hlg2 hbt2 hr2 w2 HF2.out HY2.out)
              clear hlg2 hbt2
              unfold TkPost at HT
              by_cases hall : m ≤ bt2.length + r.length
              · obtain ⟨e1, e2⟩ := take_all HP2.out hall
                rw [e1] at hfe2
                have hrl : (r.drop (m - bt2.length)).length ≤ r.length := by rw [List.length_drop]; omega
                generalize bt2 ++ r.take (m - bt2.length) = msg at *
                generalize r.drop (m - bt2.length) = r2 at *
                have HFE2 := Lib.hid (show feed most s0 = ((outs ++ [msg]) ++ (feed most ([] ++ r2)).1, (feed most ([] ++ r2)).2) by rw [hfe2]; simp)
                have hme := hmeas
                have HE2 := Lib.hid e2
                clear hfe2 e1 e2 hall hmeas
                go_wp2_with fail
                refine HT.out.mono ?_
                rintro e w3 ⟨v3, rfl, q3, o3, k3, l3⟩
                have M3 := ownS_keep12 HM2.out k3 (ownS_out HM2.out HY2.out hbl)
                have K3 := kp_more HK2.out k3 HV2.out
                obtain ⟨ao3, cap3, hv3, -⟩ := o3.form
                rw [HE2.out] at hv3
                subst hv3
                obtain ⟨x0, x1, x2, x3, x4, x5, x6⟩ := q3.cells
                have HQ3 := Lib.hid q3
                have HO3 := Lib.hid o3
                have HM3 := Lib.hid M3
                have HK3 := Lib.hid K3
                clear HT q3 o3 k3 l3 M3 K3
                go_wp2_with fail
                go_quiet (fail)
                have q4 : FrB (w3.drewN nq) b most false dr 2 m k (.slice ao3 m cap3) := HQ3.out
                have o4 : OwnY (w3.drewN nq) 0 (.slice ao3 m cap3) msg := HO3.out
                have m4 : OwnS (w3.drewN nq) w.heap.size 9 mv outs := HM3.out
                have k4 := HK3.out.drewN nq
                clear x0 x1 x2 x3 x4 x5 x6 HQ3 HO3 HM3 HK3
                generalize w3.drewN nq = w4 at *
                obtain ⟨x0, x1, x2, x3, x4, x5, x6⟩ := q4.cells
                have hcv := o4.conv
                have hb4 : b < w4.heap.size := lt_of_block q4
                have a5 : Below w4.heap.size w4 (w4.alloc (.cells #[.string (bs msg)] 9)) := (Below.refl _ _).alloc (Nat.le_refl _) _
                have m5 := m4.below a5
                have s5 : w.heap.size ≤ (w4.alloc (.cells #[.string (bs msg)] 9)).heap.size := (k4.alloc _).size
                have r5 := rds_one w4 msg
                have hll : outs.length + [msg].length ≤ 10000000 := by simp; omega
                go_wp2_with (at_builtin; refine spreadSL rfl rfl mv rfl m5 s5 rfl r5 (.inr ⟨_, rfl⟩) hll ?_)
                intro v6 w6 m6 g6
                have q5 : FrB (w4.alloc (.cells #[.string (bs msg)] 9)) b most false dr 2 m k (.slice ao3 m cap3) := (a5.block b hb4).trans q4
                have q6 : FrB w6 b most false dr 2 m k (.slice ao3 m cap3) := (g6.block b (lt_of_block q5) (fun e => by have := (World.ownsRow.lt m5 b e.symm).1; omega)).trans q5
                have k6 := kp_grown12 (k4.alloc _) g6 (fun j hj => .inr (World.ownsRow.lt m5 j hj).1)
                clear x0 x1 x2 x3 x4 x5 x6 hcv a5 m5 s5 r5 hll g6 q5 q4 o4 m4 k4 hb4
                obtain ⟨x0, x1, x2, x3, x4, x5, x6⟩ := q6.cells
                obtain ⟨f1, f2, f3, f4, f5, f6⟩ := q6.free
                have y7 := q6.setWt 0 0 rfl
                have m7 := own_set12 m6 q6 (by decide) 3 (.int .i64 0)
                have y8 := y7.setLg 0 0 rfl
                have m8 := own_set12 m7 y7 (by decide) 4 (.int .i64 0)
                have y9 := y8.setAh 0 0 rfl
                have m9 := own_set12 m8 y8 (by decide) 5 (.int .i64 0)
                have HQ7 := Lib.hid (y9.setBt (.slice none 0 0))
                have HM7 := Lib.hid (own_set12 m9 y9 (by decide) 6 (.slice none 0 0))
                have HK7 := Lib.hid ((((k6.set ⟨b, 3, none⟩ (by simp) (.int .i64 0)).set ⟨b, 4, none⟩ (by simp) (.int .i64 0)).set ⟨b, 5, none⟩ (by simp) (.int .i64 0)).set ⟨b, 6, none⟩ (by simp) (.slice none 0 0))
                clear y7 y8 y9 m6 m7 m8 m9 k6 q6
                go_wp2
                go_roundg r2.length
                case measure => exact hme
                case rel => exact ⟨r2, [], 0, 0, 0, .slice none 0 0, [], outs ++ [msg], v6, rfl, rfl, rfl, HFE2.out, by simp; omega, .inl ⟨rfl, rfl, rfl, rfl, rfl⟩, HQ7.out, OwnY.nil _ _, HM7.out, HK7.out, fun g hg => by simp [Value.ownBlock] at hg⟩
              · have hp3 := take_some HP2.out hall
                have e3 : r.drop (m - bt2.length) = [] := List.drop_eq_nil_of_le (by omega)
                have e4 : r.take (m - bt2.length) = r := List.take_of_length_le (by omega)
                rw [e3] at hmeas
                rw [e3, e4] at HT
                have hlb : (bt2 ++ r).length < m := by rw [List.length_append]; omega
                have HFE2 := Lib.hid (show feed most s0 = (outs ++ (feed most ((h2 ++ r) ++ [])).1, (feed most ((h2 ++ r) ++ [])).2) by rw [hfe2, List.append_nil])
                have HP3 := Lib.hid hp3
                clear e3 e4 hall hp3 hfe2
                generalize bt2 ++ r = bt3 at *
                have hne3 : (((bt3.length : Nat) : Int) == ((m : Nat) : Int)) = false := by rw [beq_eq_false_iff_ne]; omega
                have hme := hmeas
                clear hmeas hlb
                go_wp2_with fail
                refine HT.out.mono ?_
                rintro e w3 ⟨v3, rfl, q3, o3, k3, l3⟩
                have M3 := ownS_keep12 HM2.out k3 (ownS_out HM2.out HY2.out hbl)
                have K3 := kp_more HK2.out k3 HV2.out
                have HV3 := Lib.hid (show ∀ g, v3.ownBlock = some g → v0.ownBlock = some g ∨ w.heap.size ≤ g from fun g hg => (l3 g hg).elim (HV2.out g) (fun h => .inr (Nat.le_trans HK2.out.size h)))
                obtain ⟨ao3, cap3, hv3, -⟩ := o3.form
                subst hv3
                obtain ⟨x0, x1, x2, x3, x4, x5, x6⟩ := q3.cells
                have HQ3 := Lib.hid q3
                have HO3 := Lib.hid o3
                have HM3 := Lib.hid M3
                have HK3 := Lib.hid K3
                clear HT q3 o3 k3 l3 M3 K3
                go_wp2_with fail
                go_quiet (fail)
                have HQ4 := Lib.hid (show FrB (w3.drewN nq) b most false dr 2 m k (.slice ao3 bt3.length cap3) from HQ3.out)
                have HO4 := Lib.hid (show OwnY (w3.drewN nq) 0 (.slice ao3 bt3.length cap3) bt3 from HO3.out)
                have HM4 := Lib.hid (show OwnS (w3.drewN nq) w.heap.size 9 mv outs from HM3.out)
                have HK4 := Lib.hid (HK3.out.drewN nq)
                clear x0 x1 x2 x3 x4 x5 x6 HQ3 HO3 HM3 HK3
                generalize w3.drewN nq = w4 at *
                go_wp2
                go_roundg 0
                case measure => exact hme
                case rel => exact ⟨[], h2 ++ r, 2, m, k, _, bt3, outs, mv, rfl, rfl, rfl, HFE2.out, by rw [List.length_append]; simp; omega, HP3.out, HQ4.out, HO4.out, HM4.out, HK4.out, HV3.out⟩
          · have HF1 := Lib.hid (show feed most s0 = (outs, none) by rw [HFE.out, List.nil_append, bad_first HCN.out hf]; simp)
            have HD := Lib.hid (isdigit_walk (byt c 0))
            have HDE := Lib.hid (die_walk b most false dr 0 0 0 v wr HF.out)
            by_cases hdi : dgt (byt c 0) = true
            · have h48 : byt c 0 = 48 := first48 HCN.out hf hdi
              have h48i : ((byt c 0 : Nat) : Int) = 48 := by omega
              have HD := Lib.hid isdigit48
              clear hdi hf x0 x1 x2 x4 x5 x6 h48
              go_wp2_with fail
              refine (HD.out _).mono ?_
              rintro e w2 ⟨rfl, rfl⟩
              clear x3
              go_wp2_with fail
              refine HDE.out.mono ?_
              rintro e w3 ⟨rfl, q3, k3⟩
              have HM2 := HM
              have HK2 := HK
              clear h48i HD HDE
              have M3 := ownS_keep12 HM2.out k3 (ownS_b HM2.out hbl)
              have HM3 := Lib.hid M3
              have HK3 := Lib.hid (kp_one HK2.out k3)
              have HQ3 := Lib.hid q3
              obtain ⟨x0, x1, x2, x3, x4, x5, x6⟩ := q3.cells
              clear x0 x2 x4 x5 x6 q3 k3 M3
              go_wp2
              try rw [Exit.noGoto_ret]
              go_ret2
              exact fd_end (st2 := ⟨most, none, dr⟩) (cd := 120) hbl (by rw [HE.out.1, HF1.out]) (by rw [HE.out.2.1, HF1.out]; rfl) (by rw [HE.out.2.2, HF1.out]) HQ3.out (OwnY.nil _ _) HM1.out HMX.out (fun e => ⟨rfl, rfl, rfl, rfl, rfl⟩) (fun h' e => by cases e) (fun g hg => by simp [Value.ownBlock] at hg) HK3.out HM3.out
            · have hdi2 : dgt (byt c 0) = false := by simpa using hdi
              rw [hdi2] at HD
              clear hdi hdi2 hf x0 x1 x2 x4 x5 x6
              go_wp2_with fail
              refine (HD.out _).mono ?_
              rintro e w2 ⟨rfl, rfl⟩
              clear x3
              go_wp2_with fail
              refine HDE.out.mono ?_
              rintro e w3 ⟨rfl, q3, k3⟩
              have HM2 := HM
              have HK2 := HK
              clear HD HDE
              have M3 := ownS_keep12 HM2.out k3 (ownS_b HM2.out hbl)
              have HM3 := Lib.hid M3
              have HK3 := Lib.hid (kp_one HK2.out k3)
              have HQ3 := Lib.hid q3
              obtain ⟨x0, x1, x2, x3, x4, x5, x6⟩ := q3.cells
              clear x0 x2 x4 x5 x6 q3 k3 M3
              go_wp2
              try rw [Exit.noGoto_ret]
              go_ret2
              exact fd_end (st2 := ⟨most, none, dr⟩) (cd := 120) hbl (by rw [HE.out.1, HF1.out]) (by rw [HE.out.2.1, HF1.out]; rfl) (by rw [HE.out.2.2, HF1.out]) HQ3.out (OwnY.nil _ _) HM1.out HMX.out (fun e => ⟨rfl, rfl, rfl, rfl, rfl⟩) (fun h' e => by cases e) (fun g hg => by simp [Value.ownBlock] at hg) HK3.out HM3.out
        · have hpd : Pd most h lg ah c := ⟨hlm, hha, hhd, .inl ⟨hl0, ha0⟩⟩
          have hah1 : ah ≤ 1000000 := by omega
          have HF1b := HF
          have HMb := HM
          have HKb := HK
          have HYb := HY
          have hne : c.isEmpty = false := by have := HCN.out; cases c with | nil => exact absurd rfl this | cons _ _ => rfl
          clear x0 x1 x2 x4 x5 x6 ha0 hl0 hlm hhd hha
          go_wp2_with fail
          clear x3
          have HL := Lib.hid (length_walk b most dr 1 lg ah v c HMX.out hpd.1 (hpd.2.2.2.imp (fun h => h.2) id) hcl hah1 wr HF1b.out)
          unfold LnPost at HL
          cases hh : F12.hd most c lg ah with
          | bad =>
            have HF1 := Lib.hid (show feed most s0 = (outs, none) by rw [HFE.out, pd_bad hpd hh]; simp)
            rw [hh] at HL
            clear hh hpd
            go_wp2_with fail
            refine HL.out.mono ?_
            rintro e w3 ⟨k3, rfl, q3⟩
            have HM2 := HMb
            have HK2 := HKb
            have M3 := ownS_keep12 HM2.out k3 (ownS_b HM2.out hbl)
            have HM3 := Lib.hid M3
            have HK3 := Lib.hid (kp_one HK2.out k3)
            have HQ3 := Lib.hid q3
            obtain ⟨x0, x1, x2, x3, x4, x5, x6⟩ := q3.cells
            clear x0 x2 x4 x5 x6 q3 k3 M3
            go_wp2
            try rw [Exit.noGoto_ret]
            go_ret2
            exact fd_end (st2 := ⟨most, none, dr⟩) (cd := 120) hbl (by rw [HE.out.1, HF1.out]) (by rw [HE.out.2.1, HF1.out]; rfl) (by rw [HE.out.2.2, HF1.out]) HQ3.out (OwnY.nil _ _) HM1.out HMX.out (fun e => ⟨rfl, rfl, rfl, rfl, rfl⟩) (fun h' e => by cases e) (fun g hg => by simp [Value.ownBlock] at hg) HK3.out HM3.out
          | more =>
            obtain ⟨hf1, hp3⟩ := pd_more hpd hh
            have HF1 := Lib.hid (show feed most s0 = (outs, some (h ++ c)) by rw [HFE.out, hf1]; simp)
            rw [hh] at HL
            have HP3 := Lib.hid hp3
            have hh3 : (h ++ c).length ≤ 1000000 := by rw [List.length_append]; omega
            clear hh hpd hf1 hp3
            go_wp2_with fail
            refine HL.out.mono ?_
            rintro e w3 ⟨k3, rfl, q3⟩
            have M3 := ownS_keep12 HMb.out k3 (ownS_b HMb.out hbl)
            have HM3 := Lib.hid M3
            have HK3 := Lib.hid (kp_one HKb.out k3)
            have HY3 := Lib.hid (HYb.out.keep k3 (ownY_b HYb.out HF1b.out (by decide)))
            have HQ3 := Lib.hid q3
            obtain ⟨x0, x1, x2, x3, x4, x5, x6⟩ := q3.cells
            clear x0 x2 x4 x5 x6 q3 k3 M3
            go_wp2
            try rw [Exit.noGoto_ret]
            go_ret2
            exact fd_end (st2 := ⟨most, some (h ++ c), dr⟩) (cd := 0) hbl (by rw [HE.out.1, HF1.out]) (by rw [HE.out.2.1, HF1.out]; rfl) (by rw [HE.out.2.2, HF1.out]) HQ3.out HY3.out HM1.out HMX.out (fun e => by cases e) (fun h' e => by injection e with e; subst e; exact ⟨HP3.out, hh3⟩) HV.out HK3.out HM3.out
          | num m k r =>
            obtain ⟨qq, hcq, hkq, hp2⟩ := pd_num hpd hh
            have hqr : c.length = qq.length + r.length := by rw [hcq, List.length_append]
            have hqp : 0 < qq.length := by
              have := hd_rest most c lg ah m k r hh
              omega
            have hfe2 : feed most s0 = (outs ++ (feed most ((h ++ qq) ++ r)).1, (feed most ((h ++ qq) ++ r)).2) := by rw [HFE.out, hcq, List.append_assoc]
            rw [hh] at HL
            have hHL := hpd.2.1
            clear hh hpd hcq
            go_wp2_with fail
            refine HL.out.mono ?_
            rintro e w2 ⟨k3, rfl, q3⟩
            have HM2 := Lib.hid (ownS_keep12 HMb.out k3 (ownS_b HMb.out hbl))
            have HK2 := Lib.hid (kp_one HKb.out k3)
            have HY2 := Lib.hid (HYb.out.keep k3 (ownY_b HYb.out HF1b.out (by decide)))
            have HF2 := Lib.hid q3
            have HP2 := Lib.hid hp2
            have HV2 := HV
            obtain ⟨v2, hv2⟩ : ∃ x, x = v := ⟨_, rfl⟩
            obtain ⟨h2, hh2⟩ : ∃ x, x = h ++ qq := ⟨_, rfl⟩
            obtain ⟨bt2, hb2⟩ : ∃ x : List UInt8, x = [] := ⟨_, rfl⟩
            have hl2 : h2.length = ah + qq.length := by have := (HP2.out).len.1; rw [← hh2] at this; simp at this; omega
            rw [← hh2] at hfe2 HP2
            rw [← hv2] at HF2 HY2 HV2
            rw [← hb2] at HP2 HY2
            have hlg2 : m ≤ 65535 := by have := hp2.len.2.1; have := HMX.out; omega
            have hbt2 : bt2.length < m := by
              rcases hp2 with ⟨h0, _⟩ | ⟨h0, _⟩ | ⟨_, h1, _⟩
              · omega
              · omega
              · rw [hb2]; exact h1
            have hr2 : r.length ≤ 1000000 := by omega
            have hmeas : (r.drop (m - bt2.length)).length < c.length := by rw [List.length_drop]; omega
            have hlo2 : outs.length + h2.length + r.length ≤ s0.length := by omega
            obtain ⟨x0, x1, x2, x3, x4, x5, x6⟩ := q3.cells
            clear k3 q3 hp2 hv2 hh2 hb2 x0 x1 x2 x4 x5 x6
            go_wp2_with fail
            clear x3
            have HT := Lib.hid (take_walk b most dr m k v2 bt2 r hlg2 hbt2 hr2 w2 HF2.out HY2.out)
            clear hlg2 hbt2
            unfold TkPost at HT
            by_cases hall : m ≤ bt2.length + r.length
            · obtain ⟨e1, e2⟩ := take_all HP2.out hall
              rw [e1] at hfe2
              have hrl : (r.drop (m - bt2.length)).length ≤ r.length := by rw [List.length_drop]; omega
              generalize bt2 ++ r.take (m - bt2.length) = msg at *
              generalize r.drop (m - bt2.length) = r2 at *
              have HFE2 := Lib.hid (show feed most s0 = ((outs ++ [msg]) ++ (feed most ([] ++ r2)).1, (feed most ([] ++ r2)).2) by rw [hfe2]; simp)
              have hme := hmeas
              have HE2 := Lib.hid e2
              clear hfe2 e1 e2 hall hmeas
              go_wp2_with fail
              refine HT.out.mono ?_
              rintro e w3 ⟨v3, rfl, q3, o3, k3, l3⟩
              have M3 := ownS_keep12 HM2.out k3 (ownS_out HM2.out HY2.out hbl)
              have K3 := kp_more HK2.out k3 HV2.out
              obtain ⟨ao3, cap3, hv3, -⟩ := o3.form
              rw [HE2.out] at hv3
              subst hv3
              obtain ⟨x0, x1, x2, x3, x4, x5, x6⟩ := q3.cells
              have HQ3 := Lib.hid q3
              have HO3 := Lib.hid o3
              have HM3 := Lib.hid M3
              have HK3 := Lib.hid K3
              clear HT q3 o3 k3 l3 M3 K3
              go_wp2_with fail
              go_quiet (fail)
              have q4 : FrB (w3.drewN nq) b most false dr 2 m k (.slice ao3 m cap3) := HQ3.out
              have o4 : OwnY (w3.drewN nq) 0 (.slice ao3 m cap3) msg := HO3.out
              have m4 : OwnS (w3.drewN nq) w.heap.size 9 mv outs := HM3.out
              have k4 := HK3.out.drewN nq
              clear x0 x1 x2 x3 x4 x5 x6 HQ3 HO3 HM3 HK3
              generalize w3.drewN nq = w4 at *
              obtain ⟨x0, x1, x2, x3, x4, x5, x6⟩ := q4.cells
              have hcv := o4.conv
              have hb4 : b < w4.heap.size := lt_of_block q4
              have a5 : Below w4.heap.size w4 (w4.alloc (.cells #[.string (bs msg)] 9)) := (Below.refl _ _).alloc (Nat.le_refl _) _
              have m5 := m4.below a5
              have s5 : w.heap.size ≤ (w4.alloc (.cells #[.string (bs msg)] 9)).heap.size := (k4.alloc _).size
              have r5 := rds_one w4 msg
              have hll : outs.length + [msg].length ≤ 10000000 := by simp; omega
              go_wp2_with (at_builtin; refine spreadSL rfl rfl mv rfl m5 s5 rfl r5 (.inr ⟨_, rfl⟩) hll ?_)
              intro v6 w6 m6 g6
              have q5 : FrB (w4.alloc (.cells #[.string (bs msg)] 9)) b most false dr 2 m k (.slice ao3 m cap3) := (a5.block b hb4).trans q4
              have q6 : FrB w6 b most false dr 2 m k (.slice ao3 m cap3) := (g6.block b (lt_of_block q5) (fun e => by have := (World.ownsRow.lt m5 b e.symm).1; omega)).trans q5
              have k6 := kp_grown12 (k4.alloc _) g6 (fun j hj => .inr (World.ownsRow.lt m5 j hj).1)
              clear x0 x1 x2 x3 x4 x5 x6 hcv a5 m5 s5 r5 hll g6 q5 q4 o4 m4 k4 hb4
              obtain ⟨x0, x1, x2, x3, x4, x5, x6⟩ := q6.cells
              obtain ⟨f1, f2, f3, f4, f5, f6⟩ := q6.free
              have y7 := q6.setWt 0 0 rfl
              have m7 := own_set12 m6 q6 (by decide) 3 (.int .i64 0)
              have y8 := y7.setLg 0 0 rfl
              have m8 := own_set12 m7 y7 (by decide) 4 (.int .i64 0)
              have y9 := y8.setAh 0 0 rfl
              have m9 := own_set12 m8 y8 (by decide) 5 (.int .i64 0)
              have HQ7 := Lib.hid (y9.setBt (.slice none 0 0))
              have HM7 := Lib.hid (own_set12 m9 y9 (by decide) 6 (.slice none 0 0))
              have HK7 := Lib.hid ((((k6.set ⟨b, 3, none⟩ (by simp) (.int .i64 0)).set ⟨b, 4, none⟩ (by simp) (.int .i64 0)).set ⟨b, 5, none⟩ (by simp) (.int .i64 0)).set ⟨b, 6, none⟩ (by simp) (.slice none 0 0))
              clear y7 y8 y9 m6 m7 m8 m9 k6 q6
              go_wp2
              go_roundg r2.length
              case measure => exact hme
              case rel => exact ⟨r2, [], 0, 0, 0, .slice none 0 0, [], outs ++ [msg], v6, rfl, rfl, rfl, HFE2.out, by simp; omega, .inl ⟨rfl, rfl, rfl, rfl, rfl⟩, HQ7.out, OwnY.nil _ _, HM7.out, HK7.out, fun g hg => by simp [Value.ownBlock] at hg⟩
            · have hp3 := take_some HP2.out hall
              have e3 : r.drop (m - bt2.length) = [] := List.drop_eq_nil_of_le (by omega)
              have e4 : r.take (m - bt2.length) = r := List.take_of_length_le (by omega)
              rw [e3] at hmeas
              rw [e3, e4] at HT
              have hlb : (bt2 ++ r).length < m := by rw [List.length_append]; omega
              have HFE2 := Lib.hid (show feed most s0 = (outs ++ (feed most ((h2 ++ r) ++ [])).1, (feed most ((h2 ++ r) ++ [])).2) by rw [hfe2, List.append_nil])
              have HP3 := Lib.hid hp3
              clear e3 e4 hall hp3 hfe2
              generalize bt2 ++ r = bt3 at *
              have hne3 : (((bt3.length : Nat) : Int) == ((m : Nat) : Int)) = false := by rw [beq_eq_false_iff_ne]; omega
              have hme := hmeas
              clear hmeas hlb
              go_wp2_with fail
              refine HT.out.mono ?_
              rintro e w3 ⟨v3, rfl, q3, o3, k3, l3⟩
              have M3 := ownS_keep12 HM2.out k3 (ownS_out HM2.out HY2.out hbl)
              have K3 := kp_more HK2.out k3 HV2.out
              have HV3 := Lib.hid (show ∀ g, v3.ownBlock = some g → v0.ownBlock = some g ∨ w.heap.size ≤ g from fun g hg => (l3 g hg).elim (HV2.out g) (fun h => .inr (Nat.le_trans HK2.out.size h)))
              obtain ⟨ao3, cap3, hv3, -⟩ := o3.form
              subst hv3
              obtain ⟨x0, x1, x2, x3, x4, x5, x6⟩ := q3.cells
              have HQ3 := Lib.hid q3
              have HO3 := Lib.hid o3
              have HM3 := Lib.hid M3
              have HK3 := Lib.hid K3
              clear HT q3 o3 k3 l3 M3 K3
              go_wp2_with fail
              go_quiet (fail)
              have HQ4 := Lib.hid (show FrB (w3.drewN nq) b most false dr 2 m k (.slice ao3 bt3.length cap3) from HQ3.out)
              have HO4 := Lib.hid (show OwnY (w3.drewN nq) 0 (.slice ao3 bt3.length cap3) bt3 from HO3.out)
              have HM4 := Lib.hid (show OwnS (w3.drewN nq) w.heap.size 9 mv outs from HM3.out)
              have HK4 := Lib.hid (HK3.out.drewN nq)
              clear x0 x1 x2 x3 x4 x5 x6 HQ3 HO3 HM3 HK3
              generalize w3.drewN nq = w4 at *
              go_wp2
              go_roundg 0
              case measure => exact hme
              case rel => exact ⟨[], h2 ++ r, 2, m, k, _, bt3, outs, mv, rfl, rfl, rfl, HFE2.out, by rw [List.length_append]; simp; omega, HP3.out, HQ4.out, HO4.out, HM4.out, HK4.out, HV3.out⟩
        · have hne : c.isEmpty = false := by have := HCN.out; cases c with | nil => exact absurd rfl this | cons _ _ => rfl
          have hpos : 0 < c.length := by have := HCN.out; cases c with | nil => exact absurd rfl this | cons _ _ => simp
          have hpos1 : (0 : Int) < ((c.length : Nat) : Int) := by omega
          have hfe2 : feed most s0 = (outs ++ (feed most (h ++ c)).1, (feed most (h ++ c)).2) := HFE.out
          have HF2 := HF
          have HM2 := HM
          have HK2 := HK
          have HY2 := HY
          have HP2 := HP
          have HV2 := HV
          have hlg2 : lg ≤ 65535 := by have := HMX.out; omega
          have hbt2 := hb0
          have hr2 := hcl
          have hmeas : (c.drop (lg - bt.length)).length < c.length := by rw [List.length_drop]; omega
          clear hhd hb0 hlm hha x0 x1 x2 x4 x5 x6 hpos hpos1
          go_wp2_with fail
          clear x3
          have HT := Lib.hid (take_walk b most dr lg ah v bt c hlg2 hbt2 hr2 wr HF2.out HY2.out)
          clear hlg2 hbt2
          unfold TkPost at HT
          by_cases hall : lg ≤ bt.length + c.length
          · obtain ⟨e1, e2⟩ := take_all HP2.out hall
            rw [e1] at hfe2
            have hrl : (c.drop (lg - bt.length)).length ≤ c.length := by rw [List.length_drop]; omega
            generalize bt ++ c.take (lg - bt.length) = msg at *
            generalize c.drop (lg - bt.length) = r2 at *
            have HFE2 := Lib.hid (show feed most s0 = ((outs ++ [msg]) ++ (feed most ([] ++ r2)).1, (feed most ([] ++ r2)).2) by rw [hfe2]; simp)
            have hme := hmeas
            have HE2 := Lib.hid e2
            clear hfe2 e1 e2 hall hmeas
            go_wp2_with fail
            refine HT.out.mono ?_
            rintro e w3 ⟨v3, rfl, q3, o3, k3, l3⟩
            have M3 := ownS_keep12 HM2.out k3 (ownS_out HM2.out HY2.out hbl)
            have K3 := kp_more HK2.out k3 HV2.out
            obtain ⟨ao3, cap3, hv3, -⟩ := o3.form
            rw [HE2.out] at hv3
            subst hv3
            obtain ⟨x0, x1, x2, x3, x4, x5, x6⟩ := q3.cells
            have HQ3 := Lib.hid q3
            have HO3 := Lib.hid o3
            have HM3 := Lib.hid M3
            have HK3 := Lib.hid K3
            clear HT q3 o3 k3 l3 M3 K3
            go_wp2_with fail
            go_quiet (fail)
            have q4 : FrB (w3.drewN nq) b most false dr 2 lg ah (.slice ao3 lg cap3) := HQ3.out
            have o4 : OwnY (w3.drewN nq) 0 (.slice ao3 lg cap3) msg := HO3.out
            have m4 : OwnS (w3.drewN nq) w.heap.size 9 mv outs := HM3.out
            have k4 := HK3.out.drewN nq
            clear x0 x1 x2 x3 x4 x5 x6 HQ3 HO3 HM3 HK3
            generalize w3.drewN nq = w4 at *
            obtain ⟨x0, x1, x2, x3, x4, x5, x6⟩ := q4.cells
            have hcv := o4.conv
            have hb4 : b < w4.heap.size := lt_of_block q4
            have a5 : Below w4.heap.size w4 (w4.alloc (.cells #[.string (bs msg)] 9)) := (Below.refl _ _).alloc (Nat.le_refl _) _
            have m5 := m4.below a5
            have s5 : w.heap.size ≤ (w4.alloc (.cells #[.string (bs msg)] 9)).heap.size := (k4.alloc _).size
            have r5 := rds_one w4 msg
            have hll : outs.length + [msg].length ≤ 10000000 := by simp; omega
            go_wp2_with (at_builtin; refine spreadSL rfl rfl mv rfl m5 s5 rfl r5 (.inr ⟨_, rfl⟩) hll ?_)
            intro v6 w6 m6 g6
            have q5 : FrB (w4.alloc (.cells #[.string (bs msg)] 9)) b most false dr 2 lg ah (.slice ao3 lg cap3) := (a5.block b hb4).trans q4
            have q6 : FrB w6 b most false dr 2 lg ah (.slice ao3 lg cap3) := (g6.block b (lt_of_block q5) (fun e => by have := (World.ownsRow.lt m5 b e.symm).1; omega)).trans q5
            have k6 := kp_grown12 (k4.alloc _) g6 (fun j hj => .inr (World.ownsRow.lt m5 j hj).1)
            clear x0 x1 x2 x3 x4 x5 x6 hcv a5 m5 s5 r5 hll g6 q5 q4 o4 m4 k4 hb4
            obtain ⟨x0, x1, x2, x3, x4, x5, x6⟩ := q6.cells
            obtain ⟨f1, f2, f3, f4, f5, f6⟩ := q6.free
            have y7 := q6.setWt 0 0 rfl
            have m7 := own_set12 m6 q6 (by decide) 3 (.int .i64 0)
            have y8 := y7.setLg 0 0 rfl
            have m8 := own_set12 m7 y7 (by decide) 4 (.int .i64 0)
            have y9 := y8.setAh 0 0 rfl
            have m9 := own_set12 m8 y8 (by decide) 5 (.int .i64 0)
            have HQ7 := Lib.hid (y9.setBt (.slice none 0 0))
            have HM7 := Lib.hid (own_set12 m9 y9 (by decide) 6 (.slice none 0 0))
            have HK7 := Lib.hid ((((k6.set ⟨b, 3, none⟩ (by simp) (.int .i64 0)).set ⟨b, 4, none⟩ (by simp) (.int .i64 0)).set ⟨b, 5, none⟩ (by simp) (.int .i64 0)).set ⟨b, 6, none⟩ (by simp) (.slice none 0 0))
            clear y7 y8 y9 m6 m7 m8 m9 k6 q6
            go_wp2
            go_roundg r2.length
            case measure => exact hme
            case rel => exact ⟨r2, [], 0, 0, 0, .slice none 0 0, [], outs ++ [msg], v6, rfl, rfl, rfl, HFE2.out, by simp; omega, .inl ⟨rfl, rfl, rfl, rfl, rfl⟩, HQ7.out, OwnY.nil _ _, HM7.out, HK7.out, fun g hg => by simp [Value.ownBlock] at hg⟩
          · have hp3 := take_some HP2.out hall
            have e3 : c.drop (lg - bt.length) = [] := List.drop_eq_nil_of_le (by omega)
            have e4 : c.take (lg - bt.length) = c := List.take_of_length_le (by omega)
            rw [e3] at hmeas
            rw [e3, e4] at HT
            have hlb : (bt ++ c).length < lg := by rw [List.length_append]; omega
            have HFE2 := Lib.hid (show feed most s0 = (outs ++ (feed most ((h ++ c) ++ [])).1, (feed most ((h ++ c) ++ [])).2) by rw [hfe2, List.append_nil])
            have HP3 := Lib.hid hp3
            clear e3 e4 hall hp3 hfe2
            generalize bt ++ c = bt3 at *
            have hne3 : (((bt3.length : Nat) : Int) == ((lg : Nat) : Int)) = false := by rw [beq_eq_false_iff_ne]; omega
            have hme := hmeas
            clear hmeas hlb
            go_wp2_with fail
            refine HT.out.mono ?_
            rintro e w3 ⟨v3, rfl, q3, o3, k3, l3⟩
            have M3 := ownS_keep12 HM2.out k3 (ownS_out HM2.out HY2.out hbl)
            have K3 := kp_more HK2.out k3 HV2.out
            have HV3 := Lib.hid (show ∀ g, v3.ownBlock = some g → v0.ownBlock = some g ∨ w.heap.size ≤ g from fun g hg => (l3 g hg).elim (HV2.out g) (fun h => .inr (Nat.le_trans HK2.out.size h)))
            obtain ⟨ao3, cap3, hv3, -⟩ := o3.form
            subst hv3
            obtain ⟨x0, x1, x2, x3, x4, x5, x6⟩ := q3.cells
            have HQ3 := Lib.hid q3
            have HO3 := Lib.hid o3
            have HM3 := Lib.hid M3
            have HK3 := Lib.hid K3
            clear HT q3 o3 k3 l3 M3 K3
            go_wp2_with fail
            go_quiet (fail)
            have HQ4 := Lib.hid (show FrB (w3.drewN nq) b most false dr 2 lg ah (.slice ao3 bt3.length cap3) from HQ3.out)
            have HO4 := Lib.hid (show OwnY (w3.drewN nq) 0 (.slice ao3 bt3.length cap3) bt3 from HO3.out)
            have HM4 := Lib.hid (show OwnS (w3.drewN nq) w.heap.size 9 mv outs from HM3.out)
            have HK4 := Lib.hid (HK3.out.drewN nq)
            clear x0 x1 x2 x3 x4 x5 x6 HQ3 HO3 HM3 HK3
            generalize w3.drewN nq = w4 at *
            go_wp2
            go_roundg 0
            case measure => exact hme
            case rel => exact ⟨[], h ++ c, 2, lg, ah, _, bt3, outs, mv, rfl, rfl, rfl, HFE2.out, by rw [List.length_append]; simp; omega, HP3.out, HQ4.out, HO4.out, HM4.out, HK4.out, HV3.out⟩
end Go.Proofs.YtndinelljmjfaaaDoor
