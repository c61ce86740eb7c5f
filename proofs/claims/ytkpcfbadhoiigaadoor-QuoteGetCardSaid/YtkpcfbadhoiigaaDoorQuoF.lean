/- The document's Put and Print of structured data, walked. -/
import Derived.Test.YtkpcfbadhoiigaaDoorQuoE
namespace Go.Proofs.YtkpcfbadhoiigaaDoor
open Go.ChangeShapes Go.WideShapes Go.ChangeAt Go.RowKit K Q10 U4
set_option linter.unusedVariables false

theorem elsT_step (l : List El) (i : Nat) (h : i < l.length) : elsT (l.take (i + 1)) = elsT (l.take i) ++ elT (l.getD i noe) := by
  rw [takeD l i noe h, elsT_app]; simp [elsT]
theorem psT_step (l : List Pm) (i : Nat) (h : i < l.length) : psT (l.take (i + 1)) = psT (l.take i) ++ pmT (l.getD i nop) := by
  rw [takeD l i nop h, psT_app]; simp [psT]
theorem elsT_pre (l : List El) (i : Nat) : (elsT (l.take i)).length ≤ (elsT l).length := by
  have := congrArg List.length (elsT_app (l.take i) (l.drop i))
  rw [List.take_append_drop, List.length_append] at this
  omega
theorem psT_pre (l : List Pm) (i : Nat) : (psT (l.take i)).length ≤ (psT l).length := by
  have := congrArg List.length (psT_app (l.take i) (l.drop i))
  rw [List.take_append_drop, List.length_append] at this
  omega
theorem quiet_drq {P : Program} {f : FuncId} {args : Array Value} {w : World} {n : Nat} {v : Value}
    (h : Calls P f args (w.drewN n) fun e w' => e = .returned v ∧ Dr (w.drewN n) w') : Calls P f args (w.drewN n) fun e w'' => e = .returned v ∧ ∃ m, w'' = w.drewN m :=
  h.mono fun _ _ ⟨he, k, hk⟩ => ⟨he, n + k, by rw [hk]; unfold World.drewN; simp [Nat.add_assoc]⟩
def PuRel (l : List El) (w : World) (g : Nat) (v3 v4 : Value) (wr : World) : Prop :=
  ∃ i, i + g = l.length ∧ v3 = .string (bs (elsT (l.take i))) ∧ v4 = .int .i64 (i : Nat) ∧ Dr w wr
def PvRel (S : List UInt8) (x : El) (w : World) (g : Nat) (v3 v5 : Value) (wr : World) : Prop :=
  ∃ k, k + g = x.ps.length ∧ v3 = .string (bs (S ++ psT (x.ps.take k))) ∧ v5 = .int .i64 (k : Nat) ∧ Dr w wr
theorem RdP.dr {w w' : World} {ao : Option Addr} {xs : List Pm} (h : RdP w ao xs) (d : Dr w w') : RdP w' ao xs := by
  obtain ⟨m, rfl⟩ := d; exact h
theorem RdE.dr {w w' : World} {ao : Option Addr} {xs : List El} (h : RdE w ao xs) (d : Dr w w') : RdE w' ao xs := by
  obtain ⟨m, rfl⟩ := d; exact h
set_option maxRecDepth 100000 in
set_option maxHeartbeats 2000000 in
theorem qput10_walk (l : List El) (ao : Option Addr) (cap : Nat) (hl : ∀ x ∈ l, LimE x) (hp : (elsT l).length ≤ 1000000000) (hn : l.length ≤ 1000000000) (w : World) (hr : RdE w ao l) :
    Calls Tryd.prog 39 #[.slice ao l.length cap] w fun e w' => e = .returned (.string (bs (put l))) ∧ Dr w w' := by
  by_cases h0 : l.length = 0
  · have HE := Lib.hid (show put l = [45] by rw [List.length_eq_zero_iff.1 h0]; rfl)
    have hz : ((l.length : Nat) : Int) = 0 := by omega
    clear h0 hl hr hn hp
    generalize l.length = n at *
    go_enter Tryd.func39, Tryd.ntmps39
    go_wp2
    go_ret
    rw [HE.out]
    exact ⟨rfl, Dr.refl w⟩
  have h1 : (((l.length : Nat) : Int) == 0) = false := by rw [beq_eq_false_iff_ne]; omega
  have HPU := Lib.hid (show put l = elsT l by unfold put; cases l with | nil => simp at h0 | cons x r => rfl)
  have HLL := Lib.hid hl
  have HR := Lib.hid (fun w1 (d : Dr w w1) => hr.dr d)
  have HP := Lib.hid hp
  have HN := Lib.hid hn
  clear h0 hl hr hp
  go_enter Tryd.func39, Tryd.ntmps39
  go_wp2
  go_loopg [3, 4] l.length (fun g v3 v4 wr => PuRel l w g v3 v4 wr)
  case atStart => exact ⟨0, by omega, rfl, rfl, Dr.refl w⟩
  case round =>
    obtain ⟨i, hg, rfl, rfl, hd⟩ := hrel
    have HG := Lib.hid hg
    have HD := Lib.hid hd
    clear hg hd
    cases gk with
    | zero =>
      have hi : l.length ≤ i := by have := HG.out; omega
      have HS := Lib.hid (show put l = elsT (l.take i) by rw [List.take_of_length_le hi]; exact HPU.out)
      clear HPU
      generalize elsT (l.take i) = S at *
      go_wp2
      go_ret
      rw [HS.out]
      exact ⟨rfl, HD.out⟩
    | succ g =>
      have hlt : i < l.length := by have := HG.out; omega
      obtain ⟨x, hx⟩ : ∃ x, l.getD i noe = x := ⟨_, rfl⟩
      have HLE := Lib.hid (HLL.out x (by rw [← hx]; exact getD_mem hlt))
      obtain ⟨c, off, po, pc, rfl, hc, c0, c1, hrp⟩ := (HR.out _ HD.out).at hlt hx
      have HST := Lib.hid (elsT_step l i hlt)
      rw [hx] at HST
      have hb1 : (elsT (l.take i)).length + (elT x).length ≤ 1000000000 := by
        have h1 := congrArg List.length HST.out
        have h2 := elsT_pre l (i + 1)
        have h3 := HP.out
        rw [List.length_append] at h1
        omega
      have HB1 := Lib.hid hb1
      have helT : (elT x).length = x.id.length + (psT x.ps).length + 2 := by unfold elT; simp; omega
      have HET := Lib.hid helT
      have hbS : (elsT (l.take i)).length + x.id.length + 1 ≤ 1000000000 := by omega
      have HET2 := Lib.hid (show elT x = 91 :: x.id ++ psT x.ps ++ [93] by unfold elT; simp)
      have HRP := Lib.hid (fun w1 (d : Dr wr w1) => hrp.dr d)
      have HC0 := Lib.hid (fun w1 (d : Dr wr w1) => show w1.cell? ⟨c, off + i * 2 + 1, none⟩ = some (.slice po x.ps.length pc) by obtain ⟨m, rfl⟩ := d; exact c1)
      clear hx hrp hb1 helT
      have hlit1 : ({ data := #[91] } : ByteArray) ++ bs x.id = bs (91 :: x.id) := bs_append [91] x.id
      generalize elsT (l.take i) = S at *
      go_wp2_with fail
      clear c0 c1 hbS hlit1
      go_loopg [3, 5] x.ps.length (fun g v3 v5 wx => PvRel (S ++ 91 :: x.id) x wr g v3 v5 wx)
      case atStart => exact ⟨0, by omega, by simp [psT], rfl, Dr.refl wr⟩
      case round =>
        obtain ⟨k, hk, rfl, rfl, hd2⟩ := hrel
        have HK := Lib.hid hk
        have HD2 := Lib.hid hd2
        have c1 := HC0.out _ hd2
        clear hk hd2
        cases gk with
        | zero =>
          have hki : x.ps.length ≤ k := by have := HK.out; omega
          have htk : x.ps.take k = x.ps := List.take_of_length_le hki
          rw [htk]
          have HF := Lib.hid (show S ++ 91 :: x.id ++ psT x.ps ++ [93] = elsT (l.take (i + 1)) by rw [HST.out, HET2.out]; simp)
          have hlen : (S ++ 91 :: x.id ++ psT x.ps).length ≤ 1000000000 := by have := HB1.out; have := HET.out; simp; omega
          clear htk
          generalize S ++ 91 :: x.id ++ psT x.ps = S2 at *
          have hlit : bs S2 ++ ({ data := #[93] } : ByteArray) = bs (S2 ++ [93]) := bs_append S2 [93]
          go_wp2
          go_roundg g
          case measure => have := HG.out; omega
          case rel => exact ⟨i + 1, by have := HG.out; omega, by rw [HF.out], by simp, HD.out.trans HD2.out⟩
        | succ g2 =>
          have hki : k < x.ps.length := by have := HK.out; omega
          have hpsl : x.ps.length ≤ 1000000000 := HLE.out.2.1
          obtain ⟨cp, op, rfl, hcp, hpp⟩ := (HRP.out _ HD2.out).at (by omega)
          obtain ⟨p0, p1⟩ := hpp k hki
          have HPS := Lib.hid (psT_step x.ps k hki)
          have hq := HLE.out.2.2 _ (getD_mem (d := nop) hki)
          obtain ⟨P, hP⟩ : ∃ P, x.ps.getD k nop = P := ⟨_, rfl⟩
          rw [hP] at p0 p1 HPS hq
          have HES := Lib.hid (fun w1 => qescape_walk P.v (by omega) w1)
          have hbd : (S ++ 91 :: x.id ++ psT (x.ps.take k)).length + (pmT P).length ≤ 1000000000 := by
            have h1 := congrArg List.length HPS.out
            have h2 := psT_pre x.ps (k + 1)
            have h3 := HB1.out
            have h4 := HET.out
            rw [List.length_append] at h1
            simp only [List.length_append, List.length_cons]
            omega
          have hpm : (pmT P).length = P.n.length + (esc P.v).length + 4 := by unfold pmT; simp; omega
          have HF := Lib.hid (show S ++ 91 :: x.id ++ psT (x.ps.take k) ++ pmT P = S ++ 91 :: x.id ++ psT (x.ps.take (k + 1)) by rw [HPS.out]; simp)
          have HPM := Lib.hid (show pmT P = 32 :: P.n ++ [61, 34] ++ esc P.v ++ [34] by unfold pmT; simp)
          clear hpp hP
          generalize S ++ 91 :: x.id ++ psT (x.ps.take k) = S2 at *
          generalize esc P.v = EV at *
          have hb2 : S2.length + P.n.length + EV.length + 4 ≤ 1000000000 := by omega
          clear hbd hpm
          have l1 : ({ data := #[32] } : ByteArray) ++ bs P.n = bs (32 :: P.n) := bs_append [32] P.n
          have l2 : bs (32 :: P.n) ++ ({ data := #[61, 34] } : ByteArray) = bs (32 :: P.n ++ [61, 34]) := bs_append _ [61, 34]
          have l3 : bs (32 :: P.n ++ [61, 34]) ++ bs EV = bs (32 :: P.n ++ [61, 34] ++ EV) := bs_append _ _
          have l4 : bs (32 :: (P.n ++ 61 :: 34 :: EV)) ++ ({ data := #[34] } : ByteArray) = bs (32 :: (P.n ++ 61 :: 34 :: EV) ++ [34]) := bs_append _ [34]
          go_wp2_with fail
          go_quiet ((go_at_call 15; with_reducible refine quiet_drq (HES.out _)))
          go_wp2
          go_roundg g2
          case measure => have := HK.out; omega
          case rel =>
            refine ⟨k + 1, by have := HK.out; omega, ?_, by simp, HD2.out.trans ⟨_, rfl⟩⟩
            rw [← HF.out, HPM.out]
            simp
theorem put_okL {l : List El} (h : okL l = true) : l.length ≤ 4096 := by
  unfold okL at h
  simp only [Bool.and_eq_true, decide_eq_true_eq] at h
  exact h.1
set_option maxRecDepth 100000 in
theorem qprint10_walk (l : List El) (ao : Option Addr) (cap : Nat) (hn : l.length ≤ 140737488351232) (hl : LimL l) (hp : okL l = true → (elsT l).length ≤ 1000000000) (w : World) (hr : RdE w ao l) :
    Calls Tryd.prog 19 #[.slice ao l.length cap] w fun e w' => e = .returned (.tuple #[.string (bs (prS l)), .int .i64 (prE l : Nat)]) ∧ Below w.heap.size w w' := by
  have hC := fun w1 (h : RdE w1 ao l) => qcheck10_walk l ao cap hn hl w1 h
  cases ho : okL l
  · have HE := Lib.hid (show prS l = [] ∧ prE l = 100 by unfold prS prE; rw [ho]; exact ⟨rfl, rfl⟩)
    have hc : ckE l = 100 := ckE_no ho
    rw [hc] at hC
    have HC := Lib.hid (hC w hr)
    clear hC hc ho hl hp hr
    go_enter Tryd.func19, Tryd.ntmps19
    go_wp2_with fail
    refine HC.out.mono ?_
    rintro e w1 ⟨rfl, b1⟩
    go_wp2
    go_ret2
    rw [HE.out.1, HE.out.2]
    exact ⟨rfl, b1⟩
  have hc : ckE l = 0 := ckE_yes ho
  rw [hc] at hC
  have HC := Lib.hid (hC w hr)
  have h4 := put_okL ho
  have HP := Lib.hid (fun w1 (h : RdE w1 ao l) => qput10_walk l ao cap (hl h4) (hp ho) (by omega) w1 h)
  have HR := Lib.hid (fun w1 (b : Below w.heap.size w w1) => hr.below b)
  have hpl : (put l).length ≤ 1000000001 := by
    have := hp ho
    unfold put; split
    · simp
    · omega
  have HE := Lib.hid (show prS l = (if (put l).length ≤ 65536 then put l else []) ∧ prE l = (if (put l).length ≤ 65536 then 0 else 2) by unfold prS prE; rw [ho]; exact ⟨rfl, rfl⟩)
  clear hC hc ho hl hp hr h4
  generalize put l = T at *
  by_cases h6 : T.length ≤ 65536
  · have h7 : ¬ (65536 : Int) < (T.length : Nat) := by omega
    go_enter Tryd.func19, Tryd.ntmps19
    go_wp2_with fail
    refine HC.out.mono ?_
    rintro e w1 ⟨rfl, b1⟩
    go_wp2_with fail
    refine (HP.out _ (HR.out _ b1)).mono ?_
    rintro e w2 ⟨rfl, m, rfl⟩
    go_wp2
    go_ret2
    rw [HE.out.1, HE.out.2, if_pos h6, if_pos h6]
    exact ⟨rfl, bdr b1 m⟩
  · have h7 : (65536 : Int) < (T.length : Nat) := by omega
    go_enter Tryd.func19, Tryd.ntmps19
    go_wp2_with fail
    refine HC.out.mono ?_
    rintro e w1 ⟨rfl, b1⟩
    go_wp2_with fail
    refine (HP.out _ (HR.out _ b1)).mono ?_
    rintro e w2 ⟨rfl, m, rfl⟩
    go_wp2
    go_ret2
    rw [HE.out.1, HE.out.2, if_neg h6, if_neg h6]
    exact ⟨rfl, bdr b1 m⟩
end Go.Proofs.YtkpcfbadhoiigaaDoor
