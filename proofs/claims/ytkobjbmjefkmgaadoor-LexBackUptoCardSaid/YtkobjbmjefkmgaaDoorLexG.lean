/- The document's Split, walked. -/
import Derived.Test.YtkobjbmjefkmgaaDoorLexF
namespace Go.Proofs.YtkobjbmjefkmgaaDoor
open Go.ChangeShapes Go.WideShapes Go.ChangeAt Go.RowKit K L14
set_option linter.unusedVariables false

/-- What Split answers: the tokens; or why there are none, and the line. -/
def spE (s : List UInt8) : Nat := if 65536 < s.length then 2 else match split 4096 1 s with | .ok _ => 0 | .error e => e.2
def spN (s : List UInt8) : Nat := if 65536 < s.length then 0 else match split 4096 1 s with | .ok _ => 0 | .error e => e.1
def spL (s : List UInt8) : List Tk := if 65536 < s.length then [] else match split 4096 1 s with | .ok l => l | .error _ => []
def SplPost (s : List UInt8) (w : World) (e : Ending) (w' : World) : Prop :=
  Below w.heap.size w w' ∧ ∃ ao cap, e = .returned (.tuple #[.slice ao (spL s).length cap, .int .i64 (spN s : Nat), .int .i64 (spE s : Nat)]) ∧ RdK w' ao (spL s)
theorem sp_ok {s : List UInt8} {l : List Tk} (hs : s.length ≤ 65536) (h : split 4096 1 s = .ok l) : spE s = 0 ∧ spN s = 0 ∧ spL s = l := by
  unfold spE spN spL; rw [if_neg (by omega), if_neg (by omega), if_neg (by omega), h]; exact ⟨rfl, rfl, rfl⟩
theorem sp_er {s : List UInt8} {e : Nat × Nat} (hs : s.length ≤ 65536) (h : split 4096 1 s = .error e) : spE s = e.2 ∧ spN s = e.1 ∧ spL s = [] := by
  unfold spE spN spL; rw [if_neg (by omega), if_neg (by omega), if_neg (by omega), h]; exact ⟨rfl, rfl, rfl⟩
def pre (ts : List Tk) (x : Except (Nat × Nat) (List Tk)) : Except (Nat × Nat) (List Tk) := match x with | .error e => .error e | .ok l => .ok (ts ++ l)
/-- The rounds. -/
def SpRel (s : List UInt8) (w : World) (g : Nat) (v5 v6 v7 : Value) (wr : World) : Prop :=
  ∃ p ln ts, p ≤ s.length ∧ s.length - p ≤ g ∧ ln ≤ 1 + p ∧ v7 = .int .i64 (p : Nat) ∧ v6 = .int .i64 (ln : Nat) ∧ OwnK wr w.heap.size 52 v5 ts ∧ ts.length ≤ 4096 ∧ split 4096 1 s = pre ts (split (4096 - ts.length) ln (s.drop p)) ∧ Below w.heap.size w wr
def SnRel14 (s : List UInt8) (p n ln : Nat) (w : World) (g : Nat) (v6 v9 : Value) (wr : World) : Prop :=
  wr = w ∧ ∃ m, m + g = n ∧ v9 = .int .i64 ((p + m : Nat) : Int) ∧ v6 = .int .i64 ((ln + nls ((s.drop p).take m) : Nat) : Int)
theorem spl_end {s : List UInt8} (hs : s.length ≤ 65536) {ts : List Tk} {m ln p : Nat} (h : split 4096 1 s = pre ts (split m ln (s.drop p))) (hr : rst (s.drop p) = []) : spE s = 0 ∧ spN s = 0 ∧ spL s = ts := by
  rw [split_end hr] at h
  exact sp_ok hs (by rw [h]; simp [pre])
theorem spl_no {s : List UInt8} (hs : s.length ≤ 65536) {ts : List Tk} {m ln p : Nat} (h : split 4096 1 s = pre ts (split m ln (s.drop p))) (hr : ¬ rst (s.drop p) = []) (hx : nxt (rst (s.drop p)) = none) : spE s = 140 ∧ spN s = lin ln (s.drop p) ∧ spL s = [] := by
  rw [split_no hr hx] at h
  exact sp_er hs h
theorem spl_full {s : List UInt8} (hs : s.length ≤ 65536) {ts : List Tk} {m ln p : Nat} (h : split 4096 1 s = pre ts (split m ln (s.drop p))) (h0 : m = 0) (hr : ¬ rst (s.drop p) = []) {y : (Nat × List UInt8) × Nat} (hx : nxt (rst (s.drop p)) = some y) : spE s = 2 ∧ spN s = lin ln (s.drop p) ∧ spL s = [] := by
  subst h0
  rw [split_full hr hx] at h
  exact sp_er hs h
theorem spl_go {s : List UInt8} {ts : List Tk} {ln p n q : Nat} {c : UInt8} {r : List UInt8} {k L : Nat} {t : List UInt8} (h : split 4096 1 s = pre ts (split (4096 - ts.length) ln (s.drop p))) (hr : rst (s.drop p) = c :: r) (hL : lin ln (s.drop p) = L) (hx : nxt (c :: r) = some ((k, t), n)) (hq : (c :: r).drop n = s.drop q) (ht : ts.length < 4096) : split 4096 1 s = pre (ts ++ [⟨k, t, L⟩]) (split (4096 - (ts ++ [(⟨k, t, L⟩ : Tk)]).length) L (s.drop q)) := by
  rw [h, show 4096 - ts.length = (4096 - (ts ++ [(⟨k, t, L⟩ : Tk)]).length) + 1 by rw [List.length_append]; simp; omega, split_go (by rw [hr]; simp) (by rw [hr]; exact hx), hL, hr, hq]
  cases split (4096 - (ts ++ [(⟨k, t, L⟩ : Tk)]).length) L (s.drop q) <;> simp [pre]
theorem appK2 {ops : Array Oper} {rest : List Oper} {o : Oper} {a : Act} {Q : Exit → Act → World → Prop} {W : World} (hgd : o.guard = none) {s x : Operand} (ho : o.op = .call { callee := .builtin .append, args := #[s, x], argTypes := #[27, 27] })
    {B : Nat} {v : Value} {l : List Tk} {k L : Nat} {t : List UInt8} {z : Int} (hs : a.eval s = v) (hO : OwnK W B 52 v l) (hz : z = (L : Nat)) {bz : Nat} (hx : a.eval x = .slice (some ⟨bz, 0, none⟩) 1 1) (hbz : bz = W.heap.size) (hn : l.length ≤ 1000000) (hB : B ≤ W.heap.size)
    (h : ∀ v' w', OwnK w' B 52 v' (l ++ [⟨k, t, L⟩]) → (∀ y, Below B y W → Below B y w') → wpList Tryd.prog ops Q rest (a.put o.dst v') w') : wpList Tryd.prog ops Q (o :: rest) a (W.alloc (.cells #[.int .i64 (k : Nat), .string (bs t), .int .i64 z] 52)) := by
  subst hz hbz
  exact appK (p := ⟨k, t, L⟩) hgd ho hs hO hx hn hB h
theorem nls_le (s : List UInt8) : nls s ≤ s.length := List.countP_le_length
set_option maxRecDepth 100000 in
set_option maxHeartbeats 1000000 in
theorem qsplit_walk (s : List UInt8) (hs0 : s.length ≤ 140737488355327) (w : World) : Calls Tryd.prog 9 #[.string (bs s)] w (SplPost s w) := by
  by_cases h16 : 65536 < s.length
  · have HX := Lib.hid (show spE s = 2 ∧ spN s = 0 ∧ spL s = [] by unfold spE spN spL; rw [if_pos h16, if_pos h16, if_pos h16]; exact ⟨rfl, rfl, rfl⟩)
    have h9 : (65536 : Int) < ((s.length : Nat) : Int) := by omega
    clear h16
    go_enter Tryd.func9, Tryd.ntmps9
    go_wp2
    go_ret3
    refine ⟨Below.refl _ _, none, 0, ?_, ?_⟩
    · rw [HX.out.1, HX.out.2.1, HX.out.2.2]; rfl
    · rw [HX.out.2.2]; exact .inl rfl
  have h9 : ¬ (65536 : Int) < ((s.length : Nat) : Int) := by omega
  have hs : s.length ≤ 65536 := by omega
  have H0 := Lib.hid (show SpRel s w s.length (.slice none 0 0) (.int .i64 (1 : Nat)) (.int .i64 (0 : Nat)) w from ⟨0, 1, [], by omega, by omega, by omega, rfl, rfl, OwnK.nil _ _ _, by simp, by rw [List.drop_zero]; show split 4096 1 s = pre [] (split 4096 1 s); cases split 4096 1 s <;> simp [pre], Below.refl _ _⟩)
  clear h16 hs0
  go_enter Tryd.func9, Tryd.ntmps9
  go_wp2
  go_loopg [5, 6, 7] s.length (fun g v5 v6 v7 wr => SpRel s w g v5 v6 v7 wr)
  case atStart => exact H0.out
  case round =>
    obtain ⟨p, ln, ts, hpl, hpg, hlp, rfl, rfl, hown, htl, hsp, hb⟩ := hrel
    clear H0
    have HOW := Lib.hid hown
    have HSP := Lib.hid hsp
    have HB := Lib.hid hb
    have hBs := hb.size
    clear hown hsp hb
    by_cases hp : p < s.length
    · obtain ⟨G, rfl⟩ : ∃ G, gk = G + 1 := ⟨gk - 1, by omega⟩
      have hp2 : ((p : Nat) : Int) < ((s.length : Nat) : Int) := by omega
      have hrl : (s.drop p).length = s.length - p := List.length_drop ..
      obtain ⟨n, hn⟩ : ∃ n, skp false (s.drop p) = n := ⟨_, rfl⟩
      have hnl := skp_le false (s.drop p)
      have hsk := fun w1 => qskip_walk (s.drop p) (by omega) w1
      rw [hn] at hsk hnl
      have HSK := Lib.hid hsk
      have hnl2 : p + n ≤ s.length := by omega
      have hnls : ∀ m, nls ((s.drop p).take m) ≤ m := fun m => Nat.le_trans (nls_le _) (by rw [List.length_take]; omega)
      have HNL := Lib.hid hnls
      have HNS := Lib.hid hn
      have HI0 := Lib.hid (show SnRel14 s p n ln wr n (.int .i64 (ln : Nat)) (.int .i64 (p : Nat)) wr from ⟨rfl, 0, by omega, rfl, by simp [nls]⟩)
      clear hsk hrl hnl hn hnls
      rename World => W0
      go_wp2_with fail
      refine (HSK.out _).mono ?_
      rintro e w1 ⟨rfl, rfl⟩
      go_wp2_with fail
      go_loopg [6, 9] n (fun g v6 v9 wx => SnRel14 s p n ln W0 g v6 v9 wx)
      case atStart => exact HI0.out
      case round =>
        obtain ⟨rfl, m, hmg, rfl, rfl⟩ := hrel
        clear HI0
        have hml := HNL.out m
        by_cases hm : m < n
        · obtain ⟨G2, rfl⟩ : ∃ G2, gk = G2 + 1 := ⟨gk - 1, by omega⟩
          have hpm : p + m < s.length := by omega
          have hpm2 : (((p + m : Nat) : Int)) < ((s.length : Nat) : Int) := by omega
          have hstep := nls_next s p m hpm
          by_cases hc : byt s (p + m) = 10
          · rw [if_pos hc] at hstep
            have HX := Lib.hid (show SnRel14 s p n ln wr G2 (.int .i64 (((ln + nls ((s.drop p).take m) : Nat) : Int) + 1)) (.int .i64 (((p + m : Nat) : Int) + 1)) wr from ⟨rfl, m + 1, by omega, by congr 1, by congr 1; omega⟩)
            go_wp2
            go_roundg G2
            case measure => omega
            case rel => exact HX.out
          · rw [if_neg hc] at hstep
            have hcb : (((byt s (p + m) : Nat) : Int) == 10) = false := by rw [beq_eq_false_iff_ne]; omega
            have HX := Lib.hid (show SnRel14 s p n ln wr G2 (.int .i64 ((ln + nls ((s.drop p).take m) : Nat) : Int)) (.int .i64 (((p + m : Nat) : Int) + 1)) wr from ⟨rfl, m + 1, by omega, by congr 1, by congr 1; omega⟩)
            go_wp2
            go_roundg G2
            case measure => omega
            case rel => exact HX.out
        · obtain rfl : m = n := by omega
          have hpn : ¬ (((p + m : Nat) : Int)) < ((p : Nat) : Int) + ((m : Nat) : Int) := by omega
          by_cases hend : p + m = s.length
          · have HX := Lib.hid (spl_end hs HSP.out (show rst (s.drop p) = [] by unfold rst; rw [HNS.out, List.drop_drop]; exact List.drop_eq_nil_of_le (by omega)))
            obtain ⟨ao, cap, rfl, hrd⟩ := HOW.out.form
            have HRD := Lib.hid hrd
            clear hrd
            go_wp2
            go_ret3
            refine ⟨HB.out, ao, cap, ?_, ?_⟩
            · rw [HX.out.1, HX.out.2.1, HX.out.2.2]; rfl
            · rw [HX.out.2.2]; exact HRD.out
          · have hend2 : p + m < s.length := by omega
            have hend3 : (((p : Nat) : Int) + ((m : Nat) : Int) == ((s.length : Nat) : Int)) = false := by rw [beq_eq_false_iff_ne]; omega
            have hend4 : (((p : Nat) : Int) + ((m : Nat) : Int)) < ((s.length : Nat) : Int) := by omega
            obtain ⟨c, r, hcr⟩ : ∃ c r, s.drop (p + m) = c :: r := by
              cases h : s.drop (p + m) with
              | nil => have := congrArg List.length h; rw [List.length_drop] at this; simp at this; omega
              | cons c r => exact ⟨c, r, rfl⟩
            have hrl : (c :: r).length = s.length - (p + m) := by rw [← hcr, List.length_drop]
            have HNX := Lib.hid (fun w1 => qnext_walk c r (by omega) w1)
            have HCR := Lib.hid hcr
            clear hcr hrl
            have HR := Lib.hid (show rst (s.drop p) = c :: r by unfold rst; rw [HNS.out, List.drop_drop]; exact HCR.out)
            have HLN := Lib.hid (show lin ln (s.drop p) = ln + nls ((s.drop p).take m) by unfold lin; rw [HNS.out])
            go_wp2_with fail
            rw [HCR.out]
            refine (HNX.out _).mono ?_
            rintro e w3 ⟨rfl, k3⟩
            cases hx : nxt (c :: r) with
            | none =>
              have HX := Lib.hid (spl_no hs HSP.out (by rw [HR.out]; simp) (by rw [HR.out]; exact hx))
              rw [HLN.out] at HX
              rw [(nx_none hx).1, (nx_none hx).2.1, (nx_none hx).2.2]
              have HB3 := Lib.hid ((HB.out.trans (k3.mono hBs)).alloc (Nat.le_trans hBs k3.size) (.cells #[.int .i64 ((0 : Nat) : Int), .string (bs []), .int .i64 0] 52))
              clear hx k3
              go_wp2
              go_ret3
              refine ⟨HB3.out, none, 0, ?_, ?_⟩
              · rw [HX.out.1, HX.out.2.1, HX.out.2.2]; simp
              · rw [HX.out.2.2]; exact .inl rfl
            | some y =>
              obtain ⟨⟨k, t⟩, n⟩ := y
              have hn1 := nxt_n hx
              rw [(nx_some hx).1, (nx_some hx).2.1, (nx_some hx).2.2]
              have hR := rowNew w3 (.cells #[.int .i64 (k : Nat), .string (bs t), .int .i64 0] 52)
              have HB3 := Lib.hid (fun X => (HB.out.trans (k3.mono hBs)).alloc (Nat.le_trans hBs k3.size) X)
              obtain ⟨ao, cap, rfl, hrd⟩ := HOW.out.form
              clear hrd
              have HOW3 := Lib.hid (fun X => World.ownsRow.alloc (HOW.out.below k3) X)
              have hn0 : (((n : Nat) : Int) == 0) = false := by rw [beq_eq_false_iff_ne]; omega
              by_cases hfull : 4096 ≤ ts.length
              · have HX := Lib.hid (spl_full hs HSP.out (by omega) (by rw [HR.out]; simp) (by rw [HR.out]; exact hx))
                rw [HLN.out] at HX
                have hf2 : (4096 : Int) ≤ ((ts.length : Nat) : Int) := by omega
                clear hx k3 hn1
                go_wp2
                go_ret3
                refine ⟨HB3.out _, none, 0, ?_, ?_⟩
                · rw [HX.out.1, HX.out.2.1, HX.out.2.2]; simp
                · rw [HX.out.2.2]; exact .inl rfl
              · have hf2 : ¬ (4096 : Int) ≤ ((ts.length : Nat) : Int) := by omega
                have HK3 := Lib.hid k3
                have HXX := Lib.hid hx
                clear hx k3
                have hown : OwnK (w3.alloc (.cells #[.int .i64 (k : Nat), .string (bs t), .int .i64 ((ln : Int) + (nls ((s.drop p).take m) : Nat))] 52)) w.heap.size 52 _ ts := HOW3.out (.cells #[.int .i64 (k : Nat), .string (bs t), .int .i64 ((ln : Int) + (nls ((s.drop p).take m) : Nat))] 52)
                have hBs4 : w.heap.size ≤ (w3.alloc (.cells #[.int .i64 (k : Nat), .string (bs t), .int .i64 ((ln : Int) + (nls ((s.drop p).take m) : Nat))] 52)).heap.size := (HB3.out _).size
                have hbz4 := Lib.hid (show w3.heap.size + 1 = (w3.alloc (.cells #[.int .i64 (k : Nat), .string (bs t), .int .i64 ((ln : Int) + (nls ((s.drop p).take m) : Nat))] 52)).heap.size by simp)
                have hts : ts.length ≤ 1000000 := by omega
                go_wp2_with (at_builtin; refine appK2 rfl rfl rfl hown (Int.natCast_add ln (nls ((s.drop p).take m))).symm rfl hbz4.out hts hBs4 ?_)
                intro v' w' hown2 hbb
                have HO2 := Lib.hid hown2; have HB4 := Lib.hid (hbb _ (HB3.out _))
                clear hown2 hbb hown
                have hpe : p + m + n ≤ s.length := by
                  have hcl := congrArg List.length HCR.out
                  rw [List.length_drop] at hcl
                  omega
                have HX := Lib.hid (show SpRel s w G v' (.int .i64 ((ln : Int) + (nls ((s.drop p).take m) : Nat))) (.int .i64 ((p : Int) + (m : Int) + (n : Int))) w' from ⟨p + m + n, ln + nls ((s.drop p).take m), ts ++ [⟨k, t, ln + nls ((s.drop p).take m)⟩], by omega, by omega, by omega, by simp, by simp, HO2.out, by simp; omega, spl_go HSP.out HR.out HLN.out HXX.out (by rw [← HCR.out, List.drop_drop]) (by omega), HB4.out⟩)
                go_wp2
                go_roundg G
                case measure => omega
                case rel => exact HX.out
    · have HX := Lib.hid (spl_end hs HSP.out (show rst (s.drop p) = [] by rw [List.drop_eq_nil_of_le (by omega)]; rfl))
      have hp2 : ¬ ((p : Nat) : Int) < ((s.length : Nat) : Int) := by omega
      obtain ⟨ao, cap, rfl, hrd⟩ := HOW.out.form
      have HRD := Lib.hid hrd
      clear hrd
      go_wp2
      go_ret3
      refine ⟨HB.out, ao, cap, ?_, ?_⟩
      · rw [HX.out.1, HX.out.2.1, HX.out.2.2]; rfl
      · rw [HX.out.2.2]; exact HRD.out
end Go.Proofs.YtkobjbmjefkmgaaDoor
