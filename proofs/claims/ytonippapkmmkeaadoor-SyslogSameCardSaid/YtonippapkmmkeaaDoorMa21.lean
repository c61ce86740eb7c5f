/- Texts on the program and on the document, joined: QuqL, QuoOk. -/
import Derived.Test.YtonippapkmmkeaaDoorMa20
import Derived.Test.YtonippapkmmkeaaDoorMa16
import Derived.Test.YtonippapkmmkeaaDoorMa18
import Derived.Test.YtonippapkmmkeaaDoorMa19
/- The program's Parse of structured data, walked. -/
namespace Go.Proofs.YtonippapkmmkeaaDoor
open Go.ChangeShapes Go.WideShapes Go.ChangeAt Go.RowKit K Q10 U4
set_option linter.unusedVariables false

theorem RdP.off {w : World} {ao : Option Addr} {xs : List Pm} (h : RdP w ao xs) {b : Nat} {s : List UInt8} {g : Bool} (hr : RQ w b s g) : xs.length = 0 ∨ ∀ a, ao = some a → a.block ≠ b := by
  by_cases h0 : xs.length = 0
  · exact .inl h0
  refine .inr fun a ha hb => ?_
  obtain ⟨c, off, e, hc, hcc⟩ := h.at (by omega)
  rw [e] at ha
  injection ha with ha
  subst ha
  have hb' : c = b := hb
  subst hb'
  obtain ⟨c0, c1⟩ := hcc 0 (by omega)
  unfold RQ at hr
  rw [cellRow hr] at c0 c1
  match off, c0, c1 with
  | 0, _, c1 => simp at c1
  | 1, c0, _ => simp at c0
  | n + 2, c0, _ => simp at c0
theorem OwnE.kq {w w' : World} {B : Nat} {T Tp : TypeId} {v : Value} {es : List El} (h : OwnE w B T Tp v es) {b : Nat} {s : List UInt8} {g : Bool} (hr : RQ w b s g) (k : Kp [b] w w') (hb : b < B) (hT : 82 ≠ Tp) : OwnE w' B T Tp v es := by
  obtain ⟨zs, h1, h2, h3⟩ := h
  refine ⟨zs, h1, own_kp h2 k (by intro x hx; simp at hx; omega), fun z hz => ?_⟩
  obtain ⟨g1, g2⟩ := h3 z hz
  have hoff := g1.off hr
  refine ⟨?_, ?_⟩
  · rcases hoff with h0 | h0
    · exact .inl h0
    · exact g1.kept k.size (fun a ha hlt => k.block _ hlt (by simp; exact h0 a ha))
  · rcases g2 with h0 | hv
    · exact .inl h0
    · refine .inr (hv.kept fun c cs fr hc => ⟨cs, fr, k.heap hc ?_⟩)
      intro hm
      simp at hm
      subst hm
      unfold RQ at hr
      rw [hr] at hc
      injection hc with hc
      injection hc with _ hc
      exact hT hc
theorem lsP_go {k : Nat} {r : Option (List UInt8)} {t : List UInt8} (h : tk 91 r = some t) : lsP (k + 1) r = ((elP (some t)).1 :: (lsP k (elP (some t)).2).1, (lsP k (elP (some t)).2).2) := by
  simp only [lsP, h]
theorem lsP_stop {k : Nat} {r : Option (List UInt8)} (h : tk 91 r = none) : lsP (k + 1) r = ([], r) := by
  simp only [lsP, h]
theorem Rl.ps {n : Nat} : ∀ (k : Nat) {r : Option (List UInt8)}, Rl n r → Rl n (psP k r).2
  | 0, r, h => h
  | k + 1, r, h => by
    cases ht : tk 32 r with
    | none => rw [psP_stop ht]; exact h
    | some t =>
      rw [psP_go ht]
      refine Rl.ps k (Rl.pm ?_)
      rw [tk_eq ht] at h
      have h' : (32 :: t : List UInt8).length ≤ n := h
      simp only [List.length_cons] at h'
      show t.length ≤ n
      omega
theorem Rl.el {n : Nat} {r : Option (List UInt8)} (h : Rl n r) : Rl n (elP r).2 := (Rl.ps 4097 h.nmQ).mk1 93
theorem nmP_le (s : List UInt8) : (nmP s).length ≤ s.length := by have := congrArg List.length (nmP_split s); rw [List.length_append] at this; omega
theorem pmP_small {n : Nat} {r : Option (List UInt8)} (h : Rl n r) : (pmP r).1.n.length ≤ n ∧ (pmP r).1.v.length ≤ n := by
  have h' : (rst r).length ≤ n := h
  refine ⟨Nat.le_trans (nmP_le (rst r)) h', ?_⟩
  have h2 : (rst (mk1 34 (mk1 61 (r.map nmQ)))).length ≤ n := (h.nmQ.mk1 61).mk1 34
  have h3 := va_len _ (rst (mk1 34 (mk1 61 (r.map nmQ)))) (Nat.le_refl _)
  show (vaP (rst (mk1 34 (mk1 61 (r.map nmQ))))).1.length ≤ n
  omega
theorem tk_rl {n : Nat} {c : UInt8} {r : Option (List UInt8)} {t : List UInt8} (h : Rl n r) (ht : tk c r = some t) : Rl n (some t) := by
  rw [tk_eq ht] at h
  have h' : (c :: t : List UInt8).length ≤ n := h
  simp only [List.length_cons] at h'
  show t.length ≤ n
  omega
theorem psP_small {n : Nat} : ∀ (k : Nat) (r : Option (List UInt8)), Rl n r → (psP k r).1.length ≤ k ∧ ∀ p ∈ (psP k r).1, p.n.length ≤ n ∧ p.v.length ≤ n
  | 0, r, _ => by simp [psP]
  | k + 1, r, h => by
    cases ht : tk 32 r with
    | none => rw [psP_stop ht]; simp
    | some t =>
      rw [psP_go ht]
      have h1 := tk_rl h ht
      obtain ⟨i1, i2⟩ := psP_small k _ h1.pm
      refine ⟨by simp only [List.length_cons]; omega, fun p hp => ?_⟩
      rcases List.mem_cons.1 hp with rfl | hp
      · exact pmP_small h1
      · exact i2 p hp
def Sm4 (n : Nat) (x : El) : Prop := x.id.length ≤ n ∧ x.ps.length ≤ 4097 ∧ ∀ p ∈ x.ps, p.n.length ≤ n ∧ p.v.length ≤ n
theorem elP_small {n : Nat} {r : Option (List UInt8)} (h : Rl n r) : Sm4 n (elP r).1 := by
  have h' : (rst r).length ≤ n := h
  obtain ⟨i1, i2⟩ := psP_small 4097 _ h.nmQ
  exact ⟨Nat.le_trans (nmP_le (rst r)) h', i1, i2⟩
theorem lsP_small {n : Nat} : ∀ (k : Nat) (r : Option (List UInt8)), Rl n r → (lsP k r).1.length ≤ k ∧ ∀ x ∈ (lsP k r).1, Sm4 n x
  | 0, r, _ => by simp [lsP]
  | k + 1, r, h => by
    cases ht : tk 91 r with
    | none => rw [lsP_stop ht]; simp
    | some t =>
      rw [lsP_go ht]
      have h1 := tk_rl h ht
      obtain ⟨i1, i2⟩ := lsP_small k _ h1.el
      refine ⟨by simp only [List.length_cons]; omega, fun p hp => ?_⟩
      rcases List.mem_cons.1 hp with rfl | hp
      · exact elP_small h1
      · exact i2 p hp
theorem lsP_bnds {l : List UInt8} (hl : l.length ≤ 10000000) : Bnds (lsP 4097 (some l)).1 := by
  obtain ⟨h1, h2⟩ := lsP_small (n := 10000000) 4097 (some l) hl
  refine ⟨by omega, fun x hx => ?_⟩
  obtain ⟨g1, g2, g3⟩ := h2 x hx
  refine ⟨by omega, by omega, fun p hp => ?_⟩
  have := g3 p hp
  omega
def PeRel (l : List UInt8) (w : World) (rb g : Nat) (v : Value) (wr : World) : Prop :=
  ∃ es r, es.length + g = 4097 ∧ lsP 4097 (some l) = (es ++ (lsP g r).1, (lsP g r).2) ∧ Rl 10000000 r ∧ RO wr rb r ∧ OwnE wr (rb + 1) 30 56 v es ∧ Below w.heap.size w wr
set_option maxRecDepth 100000 in
set_option maxHeartbeats 2000000 in
theorem kparse_walk (l : List UInt8) (hl : l.length ≤ 10000000) (w : World) (ht : Leads w) :
    Calls Tryd.prog 33 #[.string (bs l)] w (PaQ l w) := by
  have hlit : bs [45] = ({ data := #[45] } : ByteArray) := rfl
  by_cases h45 : ∃ r, l = 45 :: r
  · obtain ⟨r, rfl⟩ := h45
    obtain ⟨p1, p2, p3⟩ := pa_dash r
    have hcp := cutp_walk (45 :: r) [45] w
    rw [show Lib.trimPrefix (45 :: r) [45] = r from rfl, show Lib.hasPrefix (45 :: r) [45] = true from rfl, hlit] at hcp
    have HCP := Lib.hid hcp
    unfold PaQ
    rw [p1, p2, p3]
    clear hcp p1 p2 p3 ht
    generalize (45 :: r : List UInt8) = L at *
    go_enter Tryd.func33, Tryd.ntmps33
    go_wp2_with fail
    refine HCP.out.mono ?_
    rintro e w1 ⟨rfl, rfl⟩
    go_wp2
    go_ret3
    exact ⟨none, 0, rfl, ⟨[], rfl, .inl rfl, fun z hz => by cases hz⟩, Below.refl _ _⟩
  have hcp := cutp_walk l [45] w
  have hpf : Lib.hasPrefix l [45] = false := by
    cases hq : Lib.hasPrefix l [45]
    · rfl
    · exfalso
      cases l with
      | nil => cases hq
      | cons b t =>
        simp [Lib.hasPrefix] at hq
        exact h45 ⟨t, by rw [hq]⟩
  rw [hpf, hlit] at hcp
  have HCP := Lib.hid hcp
  have HGOOD := Lib.hid (fun es z => pa_good (s := l) (fun r e => h45 ⟨r, e⟩) (l := es) (z := z))
  have HBAD := Lib.hid (pa_bad (s := l) (fun r e => h45 ⟨r, e⟩))
  have HLE := Lib.hid (fun w1 (b : Below w.heap.size w w1) => ht.below b)
  have hq0 : RQ (w.alloc (.cells #[.string (bs l), .bool false] 82)) w.heap.size l false := rowNew w _
  have b0 := alloc_in' w (.cells #[.string (bs l), .bool false] 82)
  clear hcp hpf h45 ht hlit
  generalize Lib.trimPrefix l [45] = TT at *
  go_enter Tryd.func33, Tryd.ntmps33
  go_wp2_with fail
  refine HCP.out.mono ?_
  rintro e w1 ⟨rfl, rfl⟩
  go_wp2_with fail
  have HBND := Lib.hid (lsP_bnds hl)
  have HWN : w.heap.size < w.heap.size + 1 := Nat.lt_succ_self _
  obtain ⟨i0, hi, hz0, hz1, hz2⟩ := info_parts info_el
  have HZ0 := Lib.hid hz0
  have HZ1 := Lib.hid hz1
  have HZ2 := Lib.hid hz2
  clear hz0 hz1 hz2
  go_loopg [2] 4097 (fun g v wr => PeRel l w w.heap.size g v wr)
  case atStart => exact ⟨[], some l, rfl, rfl, hl, hq0, OwnE.nil _ _ _ _, b0⟩
  case round =>
    obtain ⟨es, q, hg, hps, hrl, hr, ho, hb⟩ := hrel
    have HG := Lib.hid hg
    have HO := Lib.hid ho
    have HB := Lib.hid hb
    have HR := Lib.hid hr
    obtain ⟨ao, cap, rfl, hre, -, -, -⟩ := ho.form
    have HRE := Lib.hid hre
    clear hg ho hb hr hre hq0 b0
    by_cases hk0 : gk = 0
    · subst hk0
      have hac : ¬ ((es.length : Nat) : Int) ≤ 4096 := by have := HG.out; omega
      have hps2 : lsP 4097 (some l) = (es, q) := by rw [hps]; simp [lsP]
      clear hps hrl
      have HSM := Lib.hid (show Bnds es from by have := HBND.out; rw [hps2] at this; exact this)
      have HBX := HB
      have RX := HR.out
      have EX := HRE.out
      cases q with
      | none =>
        have HP := Lib.hid (HBAD.out (.inl (by rw [hps2])))
        obtain ⟨c0, c1, -, -⟩ := RX.cells
        simp only [Option.isNone_none] at c1
        clear hps2 c0 RX EX
        go_wp2
        go_ret3
        obtain ⟨q1, q2, q3⟩ := HP.out
        exact ⟨none, 0, by rw [q1, q2, q3]; rfl, by rw [q1]; exact ⟨[], rfl, .inl rfl, fun z hz => by cases hz⟩, HBX.out⟩
      | some z =>
        have HRQ := Lib.hid RX
        obtain ⟨c0, c1, -, -⟩ := RX.cells
        simp only [Option.isNone_some] at c1
        have c0 : (wr).cell? ⟨w.heap.size, 0, none⟩ = some (.string (bs z)) := c0
        by_cases h0 : es.length = 0
        · exact absurd h0 (by have := HG.out; omega)
        have h01 : (((es.length : Nat) : Int) == 0) = false := by rw [beq_eq_false_iff_ne]; omega
        have hne : es ≠ [] := fun e => h0 (by rw [e]; rfl)
        have HC := Lib.hid (kcheck_walk es ao cap HSM.out _ (HLE.out _ HBX.out) EX)
        cases hok : okL es
        · have HP := Lib.hid (HBAD.out (.inr (.inr (by rw [hps2]; exact hok))))
          rw [ckE_no hok] at HC
          clear hps2 hok h0 hne RX EX
          go_wp2_with fail
          refine HC.out.mono ?_
          rintro e w5 ⟨rfl, d5⟩
          have b5 := HBX.out.trans (d5.mono HBX.out.size)
          go_wp2
          go_ret3
          obtain ⟨q1, q2, q3⟩ := HP.out
          exact ⟨none, 0, by rw [q1, q2, q3]; rfl, by rw [q1]; exact ⟨[], rfl, .inl rfl, fun z hz => by cases hz⟩, b5⟩
        · have HP := Lib.hid (HGOOD.out es z hps2 hne hok)
          rw [ckE_yes hok] at HC
          have HEX := Lib.hid EX
          clear hps2 hok h0 hne RX EX
          go_wp2_with fail
          refine HC.out.mono ?_
          rintro e w5 ⟨rfl, d5⟩
          have b5 := HBX.out.trans (d5.mono HBX.out.size)
          have r5 := HEX.out.below d5
          have z0 : w5.cell? ⟨w.heap.size, 0, none⟩ = some (.string (bs z)) := (d5.cell (p := ⟨w.heap.size, 0, none⟩) (lt_of_block HRQ.out)).trans c0
          clear c0 c1
          go_wp2_with fail
          go_quiet (fail)
          go_wp2
          go_ret3
          obtain ⟨q1, q2, q3⟩ := HP.out
          exact ⟨ao, cap, by rw [q1, q2, q3]; rfl, by rw [q1]; exact r5, bdr b5 _⟩
    · obtain ⟨k, rfl⟩ : ∃ k, gk = k + 1 := ⟨gk - 1, by omega⟩
      have hac : ((es.length : Nat) : Int) ≤ 4096 := by have := HG.out; omega
      cases ht : tk 91 q with
      | none =>
        have hps2 : lsP 4097 (some l) = (es, q) := by rw [hps, lsP_stop ht]; simp
        clear hps hk0
        have HSM := Lib.hid (show Bnds es from by have := HBND.out; rw [hps2] at this; exact this)
        have HTK := Lib.hid (rtook_walk w.heap.size 91 q (hrl.mono (by omega)) wr HR.out)
        have e1 : tkR 91 q = q := by unfold tkR; rw [ht]
        rw [ht, e1] at HTK
        clear ht e1 hrl
        go_wp2_with fail
        refine HTK.out.mono ?_
        rintro e w2 ⟨rfl, k2, RX⟩
        have HBX := Lib.hid (HB.out.trans (k2.below HB.out.size (by simp)))
        have EX : RdE w2 ao es := by
          have o2 := HO.out.kq HR.out k2 (Nat.lt_succ_self _) (by decide)
          obtain ⟨ao', cap', hv, hre2, -⟩ := o2.form
          injection hv with hv _ _
          subst hv
          exact hre2
        clear k2
        cases q with
        | none =>
          have HP := Lib.hid (HBAD.out (.inl (by rw [hps2])))
          obtain ⟨c0, c1, -, -⟩ := RX.cells
          simp only [Option.isNone_none] at c1
          clear hps2 c0 RX EX
          go_wp2
          go_ret3
          obtain ⟨q1, q2, q3⟩ := HP.out
          exact ⟨none, 0, by rw [q1, q2, q3]; rfl, by rw [q1]; exact ⟨[], rfl, .inl rfl, fun z hz => by cases hz⟩, HBX.out⟩
        | some z =>
          have HRQ := Lib.hid RX
          obtain ⟨c0, c1, -, -⟩ := RX.cells
          simp only [Option.isNone_some] at c1
          have c0 : (w2).cell? ⟨w.heap.size, 0, none⟩ = some (.string (bs z)) := c0
          by_cases h0 : es.length = 0
          · have HP := Lib.hid (HBAD.out (.inr (.inl (by rw [hps2]; exact List.length_eq_zero_iff.1 h0))))
            have h00 : ((es.length : Nat) : Int) = 0 := by omega
            clear hps2 HSM
            generalize es.length = n at *
            go_wp2
            go_ret3
            obtain ⟨q1, q2, q3⟩ := HP.out
            exact ⟨none, 0, by rw [q1, q2, q3]; rfl, by rw [q1]; exact ⟨[], rfl, .inl rfl, fun z hz => by cases hz⟩, HBX.out⟩
          have h01 : (((es.length : Nat) : Int) == 0) = false := by rw [beq_eq_false_iff_ne]; omega
          have hne : es ≠ [] := fun e => h0 (by rw [e]; rfl)
          have HC := Lib.hid (kcheck_walk es ao cap HSM.out _ (HLE.out _ HBX.out) EX)
          cases hok : okL es
          · have HP := Lib.hid (HBAD.out (.inr (.inr (by rw [hps2]; exact hok))))
            rw [ckE_no hok] at HC
            clear hps2 hok h0 hne RX EX
            go_wp2_with fail
            refine HC.out.mono ?_
            rintro e w5 ⟨rfl, d5⟩
            have b5 := HBX.out.trans (d5.mono HBX.out.size)
            go_wp2
            go_ret3
            obtain ⟨q1, q2, q3⟩ := HP.out
            exact ⟨none, 0, by rw [q1, q2, q3]; rfl, by rw [q1]; exact ⟨[], rfl, .inl rfl, fun z hz => by cases hz⟩, b5⟩
          · have HP := Lib.hid (HGOOD.out es z hps2 hne hok)
            rw [ckE_yes hok] at HC
            have HEX := Lib.hid EX
            clear hps2 hok h0 hne RX EX
            go_wp2_with fail
            refine HC.out.mono ?_
            rintro e w5 ⟨rfl, d5⟩
            have b5 := HBX.out.trans (d5.mono HBX.out.size)
            have r5 := HEX.out.below d5
            have z0 : w5.cell? ⟨w.heap.size, 0, none⟩ = some (.string (bs z)) := (d5.cell (p := ⟨w.heap.size, 0, none⟩) (lt_of_block HRQ.out)).trans c0
            clear c0 c1
            go_wp2_with fail
            go_quiet (fail)
            go_wp2
            go_ret3
            obtain ⟨q1, q2, q3⟩ := HP.out
            exact ⟨ao, cap, by rw [q1, q2, q3]; rfl, by rw [q1]; exact r5, bdr b5 _⟩
      | some t =>
        have hrl2 := tk_rl hrl ht
        have hps2 : lsP 4097 (some l) = ((es ++ [(elP (some t)).1]) ++ (lsP k (elP (some t)).2).1, (lsP k (elP (some t)).2).2) := by
          rw [hps, lsP_go ht]; simp
        have HPS := Lib.hid hps2
        have HEL := Lib.hid (fun w1 h => relement_walk w.heap.size (some t) (hrl2.mono (by omega)) w1 h)
        unfold ElPost at HEL
        have HRL2 := Lib.hid hrl2.el
        have HTK := Lib.hid (rtook_walk w.heap.size 91 q (hrl.mono (by omega)) wr HR.out)
        have e1 : tkR 91 q = some t := by unfold tkR; rw [ht]
        rw [ht, e1] at HTK
        clear hps hps2 hrl2 hrl ht e1 hk0
        generalize (elP (some t)).1 = x at *
        generalize (elP (some t)).2 = q2 at *
        go_wp2_with fail
        refine HTK.out.mono ?_
        rintro e w2 ⟨rfl, k2, r2⟩
        have o2 := HO.out.kq HR.out k2 HWN (by decide)
        have b2 := HB.out.trans (k2.below HB.out.size (by simp))
        clear k2
        go_wp2_with fail
        refine (HEL.out _ r2).mono ?_
        rintro e w3 ⟨po, pc, rfl, hrp, hpv, hpg, k3, r3⟩
        have o3 := o2.kq r2 k3 HWN (by decide)
        have b3 := b2.trans (k3.below b2.size (by simp))
        clear k3 o2 b2 r2
        have a3 := alloc_in' w3 (.cells #[.string (bs x.id), .slice po x.ps.length pc] 30)
        have hrn := rowNew w3 (.cells #[.string (bs x.id), .slice po x.ps.length pc] 30)
        have hpv3 : Prv _ (w.heap.size + 1) 56 po := (hpv (w.heap.size + 1)).below a3
        have hrp3 := hrp.below a3
        have r4 : RO (w3.alloc (.cells #[.string (bs x.id), .slice po x.ps.length pc] 30)) w.heap.size q2 := (a3.block _ (lt_of_block r3)).trans r3
        have o4 := o3.below a3
        have b4 := b3.trans (a3.mono b3.size)
        have hs4 : w.heap.size + 1 ≤ (w3.alloc (.cells #[.string (bs x.id), .slice po x.ps.length pc] 30)).heap.size := by have := lt_of_block r3; simp; omega
        clear a3 hrp hpv hpg o3 b3 r3
        obtain ⟨zs, hz1, hown, hzp⟩ := o4
        have hzl : zs.length = es.length := by rw [← hz1, List.length_map]
        have hel : zs.length ≤ 10000 := by have := HG.out; omega
        clear hac
        go_wp2_with (at_builtin; refine wpList_append_own _ rfl _ _ 22 rfl (w.heap.size + 1) 30 i0 (.agg #[.string .empty, .slice none 0 0]) 2 40 Tryd.underlying22 hi HZ0.out HZ1.out HZ2.out rfl (by decide) _ _ _ rfl hown _ 1 1 [.string (bs x.id), .slice po x.ps.length pc] rfl rfl ?c1 ?c2 ?c3 ?c4 ?c5 ?_)
        case c1 =>
          intro j u hj
          match j, hj with
          | 0, hj => simp at hj; subst hj; exact cellRow hrn 0
          | 1, hj => simp at hj; subst hj; exact cellRow hrn 1
          | j + 2, hj => simp at hj
        case c2 =>
          intro u hu
          simp at hu
          rcases hu with rfl | rfl
          · rfl
          · rfl
        case c3 => unfold maxLen; omega
        case c4 => omega
        case c5 => exact hs4
        intro v' w5 hown' hgrow _
        have b5 := b4.grown hgrow (by omega) (fun k hk => by have := (World.ownsRow.lt hown k hk).1; omega)
        have r5 : RO w5 w.heap.size q2 := owns_keep hown hgrow r4 (by decide)
        rw [← hzl] at hown'
        have o5 := OwnE.grown (ys := [(x, ⟨po, pc⟩)]) hown hzp (fun q hq => by simp at hq; subst hq; exact ⟨hrp3, .inr hpv3⟩) (by decide) hgrow hown'
        rw [hz1] at o5
        have HB5 := Lib.hid b5
        have HO5 := Lib.hid o5
        have HR5 := Lib.hid r5
        clear hown' hgrow hown hzp b4 b5 o5 r4 r5 hrp3 hpv3 hrn
        go_wp2
        go_roundg k
        case measure => omega
        case rel => exact ⟨es ++ [x], q2, by have := HG.out; simp; omega, HPS.out, HRL2.out, HR5.out, HO5.out, HB5.out⟩
end Go.Proofs.YtonippapkmmkeaaDoor
/- The program's calls on structured data keep their word. -/
namespace Go.Proofs.YtonippapkmmkeaaDoor
open Go.ChangeShapes Go.WideShapes Go.ChangeAt Go.RowKit K Q10 U4
set_option linter.unusedVariables false

theorem quo_keep : Keeps Leads := fun a b h k => h.below k
theorem quo_leads : ∀ w, Leads w → Leads w := fun _ h => h
theorem quo_parse : HParse Leads := fun l w hl h => kparse_walk l hl w h
theorem quo_check : HCheck Leads := fun l ao cap w hB _ h hr => kcheck_walk l ao cap hB w h hr
theorem quo_same : HSame Leads := fun a b ao bo ca cb w hA hB h hr hs => ksame_walk a b ao bo ca cb (by have := hA.1; omega) (by have := hB.1; omega) (fun x hx => by have := (hA.2 x hx).2.1; omega) (fun x hx => by have := (hB.2 x hx).2.1; omega) w hr hs
theorem quo_name : HIsName Leads := fun l w hl h => (isname_walk l (by omega) w).mono fun e w' ⟨h1, h2⟩ => ⟨h1, by rw [h2]; exact Below.refl _ _⟩
end Go.Proofs.YtonippapkmmkeaaDoor
