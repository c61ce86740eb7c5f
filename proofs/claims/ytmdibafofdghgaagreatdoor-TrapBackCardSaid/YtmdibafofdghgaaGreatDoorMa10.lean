/- Texts on the program and on the document, joined: Ints, OidB, Rdq. -/
import Derived.Test.YtmdibafofdghgaaGreatDoorRows
import Derived.Test.YtmdibafofdghgaaGreatDoorMa01
import Derived.Test.YtmdibafofdghgaaGreatDoorMa09
import Derived.ProofKit
import Derived.IntWalk
import Derived.BigQuiet
import Derived.Deep.QuietTactic
import Derived.Deep.LoopGhost
import Derived.Test.YtmdibafofdghgaaGreatDoorMa04
import Derived.OpenShut
import Derived.ShutString
/- gongbook: SameInts and SpoilInts at lists that the call made itself. -/
namespace Go.Proofs.YtmdibafofdghgaaGreatDoor
open Go.ChangeShapes Go.WideShapes Go.ChangeAt Go.RowKit K
set_option linter.unusedVariables false

/-- A slice that reads as these numbers. -/
def RdI (w : World) (v : Value) (cs : List Nat) : Prop :=
  ∃ ao cap, v = .slice ao cs.length cap ∧ (cs.length = 0 ∨ ∃ g, ao = some ⟨g, 0, none⟩ ∧ g < w.heap.size ∧ ∀ i, i < cs.length → w.cell? ⟨g, i, none⟩ = some (.int .i64 ((cs.getD i 0 : Nat) : Int)))
theorem RdI.of {w : World} {B : Nat} {T : TypeId} {v : Value} {cs : List Nat} (h : OwnI w B T v cs) : RdI w v cs := by
  obtain ⟨ao, cap, hv, hc⟩ := h.form
  refine ⟨ao, cap, hv, ?_⟩
  rcases hc with h0 | ⟨g, ha, _, hg, hcell⟩
  · exact .inl h0
  · exact .inr ⟨g, ha, hg, fun i hi => (hcell i hi).1⟩
theorem RdI.below {w w' : World} {v : Value} {cs : List Nat} (h : RdI w v cs) (k : Below w.heap.size w w') : RdI w' v cs := by
  obtain ⟨ao, cap, hv, hc⟩ := h
  refine ⟨ao, cap, hv, ?_⟩
  rcases hc with h0 | ⟨g, ha, hg, hcell⟩
  · exact .inl h0
  · exact .inr ⟨g, ha, Nat.lt_of_lt_of_le hg k.size, fun i hi => (k.cell (p := ⟨g, i, none⟩) hg).trans (hcell i hi)⟩
def SmRel (w : World) (n g : Nat) (v5 v6 : Value) (wr : World) : Prop :=
  ∃ i, i + g = n ∧ v5 = .bool true ∧ v6 = .int .i64 (i : Nat) ∧ ∃ m, wr = w.drewN m
/-- A block of its own, behind B, that has so many cells. -/
def Room (w : World) (B : Nat) (T : TypeId) (ao : Option Addr) (n : Nat) : Prop := n = 0 ∨ ∃ g C, ao = some ⟨g, 0, none⟩ ∧ B ≤ g ∧ w.heap[g]? = some (.cells C T (0, 0)) ∧ n ≤ C.size
theorem Room.of {w : World} {B : Nat} {T : TypeId} {v : Value} {cs : List Nat} (h : OwnI w B T v cs) : ∃ ao cap, v = .slice ao cs.length cap ∧ Room w B T ao cs.length := by
  rcases h.2 with ⟨hv, h0⟩ | ⟨g, cap, cur, hv, hB, hh, hle, hm, hs, ht⟩
  · exact ⟨none, 0, by rw [hv, h0], .inl h0⟩
  · exact ⟨some ⟨g, 0, none⟩, cap, hv, .inr ⟨g, cur, rfl, hB, hh, by omega⟩⟩
def SpRel (w : World) (B : Nat) (T : TypeId) (ao : Option Addr) (n g : Nat) (v2 : Value) (wr : World) : Prop :=
  ∃ i, i + g = n ∧ v2 = .int .i64 (i : Nat) ∧ Room wr B T ao n ∧ Below B w wr
end Go.Proofs.YtmdibafofdghgaaGreatDoor
/- The document's own Arcs and Text, walked. -/
namespace Go.Proofs.YtmdibafofdghgaaGreatDoor
open Go.ChangeShapes Go.WideShapes Go.ChangeAt Go.RowKit K O6
set_option linter.unusedVariables false

theorem put_chars : ∀ (l : List Nat), ∀ c ∈ put l, isDg c = true ∨ c = 46
  | [], c, h => by cases h
  | [a], c, h => .inl (List.all_eq_true.1 (dg_digits 20 a) c h)
  | a :: b :: r, c, h => by
    rw [put_cons] at h
    rcases List.mem_append.1 h with h1 | h1
    · exact .inl (List.all_eq_true.1 (dg_digits 20 a) c h1)
    · rcases List.mem_cons.1 h1 with h2 | h2
      · exact .inr h2
      · exact put_chars (b :: r) c h2
theorem sp_head : ∀ (l : List UInt8) (n : Nat), ∃ h t, sp l n = h :: t ∧ n ≤ h
  | [], n => ⟨n, [], rfl, Nat.le_refl n⟩
  | c :: r, n => by
    by_cases e : c = 46
    · subst e; exact ⟨n, sp r 0, sp_dot r n, Nat.le_refl n⟩
    · obtain ⟨h, t, h1, h2⟩ := sp_head r (n * 10 + (c.toNat - 48))
      refine ⟨h, t, ?_, by omega⟩
      show (if c = 46 then _ else _) = _
      rw [if_neg e]; exact h1
theorem sp_other (c : UInt8) (r : List UInt8) (n : Nat) (h : c ≠ 46) : sp (c :: r) n = sp r (n * 10 + (c.toNat - 48)) := by
  show (if c = 46 then _ else _) = _
  rw [if_neg h]
theorem arcs_bad_char {s : List UInt8} {i : Nat} (hi : i < s.length) (h1 : isDg s[i] = false) (h2 : s[i] ≠ 46) : arcs s = none := by
  cases h : arcs s with
  | none => rfl
  | some l =>
    obtain ⟨_, h4⟩ := (arcs_iff s l).1 h
    have hm : s[i] ∈ put l := by rw [h4]; exact List.getElem_mem hi
    rcases put_chars l _ hm with h5 | h5
    · rw [h1] at h5; cases h5
    · exact absurd h5 h2
theorem arcs_big {s : List UInt8} {o : List Nat} {l : List UInt8} {n : Nat} (h : sp s 0 = o ++ sp l n) (hn : 4294967295 < n) : arcs s = none := by
  unfold arcs
  rw [if_neg]
  rw [Bool.and_eq_true]
  rintro ⟨h1, _⟩
  obtain ⟨x, t, h2, h3⟩ := sp_head l n
  have := isArcs_le h1 x (by rw [h, h2]; simp)
  omega
theorem arcs_long {s : List UInt8} (h : 1408 < s.length) : arcs s = none := by
  cases hx : arcs s with
  | none => rfl
  | some l =>
    obtain ⟨h3, h4⟩ := (arcs_iff s l).1 hx
    have h5 := put_len l (isArcs_le h3)
    have h6 := isArcs_len h3
    rw [h4] at h5; omega
def arE (s : List UInt8) : Nat := if (arcs s).isSome then 0 else 60
def arL (s : List UInt8) : List Nat := (arcs s).getD []
theorem ar_none {s : List UInt8} (h : arcs s = none) : arE s = 60 ∧ arL s = [] := by unfold arE arL; rw [h]; exact ⟨rfl, rfl⟩
theorem ar_some {s : List UInt8} {l : List Nat} (h : arcs s = some l) : arE s = 0 ∧ arL s = l := by unfold arE arL; rw [h]; exact ⟨rfl, rfl⟩
theorem isZ_fz (cs : List Nat) : isZ cs.length (fz cs) = isArcs cs := by
  have h1 : (List.range cs.length).all (fun i => inR (fz cs i)) = cs.all (fun a => decide (a ≤ 4294967295)) := by
    rw [Bool.eq_iff_iff, List.all_eq_true, List.all_eq_true]
    constructor
    · intro h a ha
      obtain ⟨i, hi, rfl⟩ := List.getElem_of_mem ha
      have := h i (List.mem_range.2 hi)
      unfold inR fz at this
      simp only [Bool.and_eq_true, decide_eq_true_eq, List.getD, List.getElem?_eq_getElem hi, Option.getD_some] at this
      rw [decide_eq_true_eq]; omega
    · intro h i hi
      have hi2 := List.mem_range.1 hi
      have := h _ (List.getElem_mem hi2)
      unfold inR fz
      simp only [Bool.and_eq_true, decide_eq_true_eq, List.getD, List.getElem?_eq_getElem hi2, Option.getD_some] at this ⊢
      omega
  have h2 : decide (fz cs 0 < 2) = decide (cs.getD 0 0 < 2) := by unfold fz; rw [Bool.eq_iff_iff, decide_eq_true_eq, decide_eq_true_eq]; omega
  have h3 : decide (fz cs 1 ≤ 39) = decide (cs.getD 1 0 ≤ 39) := by unfold fz; rw [Bool.eq_iff_iff, decide_eq_true_eq, decide_eq_true_eq]; omega
  have h4 : (fz cs 0 == 2) = (cs.getD 0 0 == 2) := by unfold fz; rw [Bool.eq_iff_iff, beq_iff_eq, beq_iff_eq]; omega
  have h5 : decide (fz cs 1 ≤ 4294967215) = decide (cs.getD 1 0 ≤ 4294967215) := by unfold fz; rw [Bool.eq_iff_iff, decide_eq_true_eq, decide_eq_true_eq]; omega
  unfold isZ isArcs
  rw [h1, h2, h3, h4, h5]
theorem RdZ.own {w : World} {B : Nat} {T : TypeId} {v : Value} {cs : List Nat} (h : OwnI w B T v cs) : ∃ ao cap, v = .slice ao cs.length cap ∧ RdZ w ao cs.length (fz cs) := by
  obtain ⟨ao, cap, hv, hc⟩ := h.form
  refine ⟨ao, cap, hv, ?_⟩
  rcases hc with h0 | ⟨g, ha, _, hg, hcell⟩
  · exact .inl h0
  · exact .inr ⟨g, 0, ha, hg, fun i hi => by rw [Nat.zero_add]; exact (hcell i hi).1⟩
/-- What Arcs hands back: the code, and the arcs in a list of its own. -/
def ArPost (s : List UInt8) (w : World) (e : Ending) (w' : World) : Prop :=
  ∃ v, e = .returned (.tuple #[v, .int .i64 (arE s : Nat)]) ∧ OwnI w' w.heap.size 3 v (arL s) ∧ Below w.heap.size w w'
def ArRel (s : List UInt8) (w : World) (g : Nat) (v4 v5 v6 : Value) (wr : World) : Prop :=
  ∃ (i n : Nat) (o : List Nat), i + g = s.length + 1 ∧ v6 = .int .i64 (i : Nat) ∧ v5 = .int .i64 (n : Nat) ∧ n ≤ 42949672959 ∧ o.length ≤ i ∧ OwnI wr w.heap.size 3 v4 o ∧ Below w.heap.size w wr ∧
    (i ≤ s.length → sp s 0 = o ++ sp (s.drop i) n) ∧ (s.length < i → o = sp s 0)
theorem int_info6 : (Tryz.prog.info? 3).map (fun i => (i.zero, i.size, i.bytes)) = some (some (.int .i64 0), 1, 8) := by kernel_rfl
theorem ret_two6 {a b c d : Value} (h : a = b) (k : c = d) : Ending.returned (.tuple #[a, c]) = .returned (.tuple #[b, d]) := by rw [h, k]
set_option maxRecDepth 100000 in
set_option maxHeartbeats 2000000 in
theorem qarcs_walk (s : List UInt8) (hs : s.length ≤ 140737488351232) (w : World) :
    Calls Tryz.prog 106 #[.string (bs s)] w (ArPost s w) := by
  by_cases hlong : 1408 < s.length
  · have HE := Lib.hid (ar_none (arcs_long hlong))
    have hl' : (1408 : Int) < ((s.length : Nat) : Int) := by omega
    clear hlong
    go_enter Tryz.func106, Tryz.ntmps106
    go_wp2
    go_ret2
    exact ⟨_, ret_two6 rfl (by rw [HE.out.1]; rfl), by rw [HE.out.2]; exact OwnI.nil _ _ _, Below.refl _ _⟩
  · have hl' : ((s.length : Nat) : Int) ≤ 1408 := by omega
    obtain ⟨i0, hi, hz0, hz1, hz2⟩ := info_of int_info6
    clear hlong
    go_enter Tryz.func106, Tryz.ntmps106
    go_wp2
    go_loopg [4, 5, 6] (s.length + 1) (fun g v4 v5 v6 wr => ArRel s w g v4 v5 v6 wr)
    case atStart => exact ⟨0, 0, [], by omega, rfl, rfl, by omega, by simp, OwnI.nil _ _ _, Below.refl _ _, fun _ => by simp, fun h => by omega⟩
    case round =>
      obtain ⟨i, n, o, hig, rfl, rfl, hn, hol, ho, hb, hin, hout⟩ := hrel
      cases gk with
      | zero =>
        have ho3 : o = sp s 0 := hout (by omega)
        have hilt : ((s.length : Nat) : Int) < (i : Nat) := by omega
        obtain ⟨ao, cap, rfl, hrd⟩ := RdZ.own ho
        have hI := qis_walk ao o.length cap (fz o) (by omega) wr hrd
        rw [isZ_fz] at hI
        have har : arcs s = if isArcs o && put o == s then some o else none := by unfold arcs; rw [ho3]
        clear hin hout ho3 hig
        have ho4 := Lib.hid ho
        clear ho
        cases hio : isArcs o with
        | false =>
          rw [hio] at hI har
          have HE := Lib.hid (ar_none (s := s) (by rw [har]; rfl))
          have HI := Lib.hid hI
          clear hI har hio hrd
          go_wp2_with fail
          refine HI.out.mono ?_
          rintro e w1 ⟨rfl, rfl⟩
          go_wp2
          go_ret2
          exact ⟨_, ret_two6 rfl (by rw [HE.out.1]; rfl), by rw [HE.out.2]; exact OwnI.nil _ _ _, hb⟩
        | true =>
          rw [hio] at hI har
          have HI := Lib.hid hI
          have HP := Lib.hid (qputs_walk o (isArcs_le hio) (by have := isArcs_len hio; omega) ao cap wr hrd)
          by_cases hps : put o = s
          · have HE := Lib.hid (ar_some (s := s) (l := o) (by rw [har, hps]; simp))
            have hne : (put o != s) = false := by rw [hps]; simp
            have hne2 : (put o == s) = true := by rw [hps]; simp
            clear hI har hio hrd hps
            generalize put o = X at *
            go_wp2_with fail
            refine HI.out.mono ?_
            rintro e w1 ⟨rfl, rfl⟩
            go_wp2_with fail
            refine HP.out.mono ?_
            rintro e w1 ⟨rfl, d⟩
            have hb2 := hb.trans (d.mono hb.size)
            have ho5 := ho4.out.below d
            clear d
            go_wp2
            go_ret2
            exact ⟨_, ret_two6 rfl (by rw [HE.out.1]; rfl), by rw [HE.out.2]; exact ho5, hb2⟩
          · have hnb : (put o == s) = false := beq_eq_false_iff_ne.2 hps
            have HE := Lib.hid (ar_none (s := s) (by rw [har, hnb]; rfl))
            have hne : (put o != s) = true := by rw [bne_iff_ne]; exact hps
            have hnb2 : (s == put o) = false := beq_eq_false_iff_ne.2 fun h => hps h.symm
            clear hI har hio hrd hps
            generalize put o = X at *
            go_wp2_with fail
            refine HI.out.mono ?_
            rintro e w1 ⟨rfl, rfl⟩
            go_wp2_with fail
            refine HP.out.mono ?_
            rintro e w1 ⟨rfl, d⟩
            have hb2 := hb.trans (d.mono hb.size)
            clear d
            go_wp2
            go_ret2
            exact ⟨_, ret_two6 rfl (by rw [HE.out.1]; rfl), by rw [HE.out.2]; exact OwnI.nil _ _ _, hb2⟩
      | succ g =>
        have hil : i ≤ s.length := by omega
        have hsp := hin hil
        by_cases hend : i = s.length
        · have hnx : o ++ [n] = sp s 0 := by rw [hsp, hend, List.drop_length, sp_nil]
          have HNX := Lib.hid hnx
          have hend' : (((i : Nat) : Int) == ((s.length : Nat) : Int)) = true := by rw [beq_iff_eq]; omega
          have HND := Lib.hid hend
          clear hin hout hsp hnx hend
          go_wp2_with (at_builtin; refine wpList_append_own _ rfl _ _ 134 rfl w.heap.size 3 i0 (.int .i64 0) 1 8 Tryz.underlying134 hi hz0 hz1 hz2 rfl (by decide) _ _ _ rfl (World.ownsRow.alloc ho _) ⟨wr.heap.size, 0, none⟩ 1 1 [.int .i64 (n : Nat)] rfl rfl ?c1 ?c2 ?c3 ?c4 ?c5 ?_)
          case c1 =>
            intro j u hj
            match j, hj with
            | 0, hj => simp at hj; subst hj; simp [Addr.add]
          case c2 => intro u hu; simp at hu; subst hu; rfl
          case c3 => unfold maxLen; omega
          case c4 => omega
          case c5 => have := hb.size; simp; omega
          intro v' w2 hown' hgrow _
          have hb2 := (hb.alloc (by have := hb.size; omega) (.cells #[.int .i64 (n : Nat)] 3)).grown hgrow (by have := hb.size; simp; omega) (fun k hk => (World.ownsRow.lt ho k hk).1)
          have ho2 : OwnI w2 w.heap.size 3 v' (o ++ [n]) := OwnI.put hown'
          clear hown' hgrow ho hb
          go_wp2
          go_roundg g
          case measure => omega
          case rel => exact ⟨i + 1, 0, o ++ [n], by omega, by simp, rfl, by omega, by simp; omega, ho2, hb2, fun h => by have := HND.out; omega, fun _ => HNX.out⟩
        · have hlt : i < s.length := by omega
          have hend' : (((i : Nat) : Int) == ((s.length : Nat) : Int)) = false := by rw [beq_eq_false_iff_ne]; omega
          have hdrop : s.drop i = s[i] :: s.drop (i + 1) := List.drop_eq_getElem_cons hlt
          have hby : byt s i = s[i].toNat := byt_get s i hlt
          have hbl := byt_lt s i
          rw [hdrop] at hsp
          by_cases hdot : s[i] = 46
          · have hd46 : byt s i = 46 := by rw [hby, hdot]; rfl
            have hnx : sp s 0 = (o ++ [n]) ++ sp (s.drop (i + 1)) 0 := by rw [hsp, hdot, sp_dot]; simp
            have HNX := Lib.hid hnx
            have hdb : (((byt s i : Nat) : Int) == 46) = true := by rw [beq_iff_eq]; omega
            clear hin hout hsp hnx hend hdrop hby hdot hd46
            go_wp2_with (at_builtin; refine wpList_append_own _ rfl _ _ 134 rfl w.heap.size 3 i0 (.int .i64 0) 1 8 Tryz.underlying134 hi hz0 hz1 hz2 rfl (by decide) _ _ _ rfl (World.ownsRow.alloc ho _) ⟨wr.heap.size, 0, none⟩ 1 1 [.int .i64 (n : Nat)] rfl rfl ?c1 ?c2 ?c3 ?c4 ?c5 ?_)
            case c1 =>
              intro j u hj
              match j, hj with
              | 0, hj => simp at hj; subst hj; simp [Addr.add]
            case c2 => intro u hu; simp at hu; subst hu; rfl
            case c3 => unfold maxLen; omega
            case c4 => omega
            case c5 => have := hb.size; simp; omega
            intro v' w2 hown' hgrow _
            have hb2 := (hb.alloc (by have := hb.size; omega) (.cells #[.int .i64 (n : Nat)] 3)).grown hgrow (by have := hb.size; simp; omega) (fun k hk => (World.ownsRow.lt ho k hk).1)
            have ho2 : OwnI w2 w.heap.size 3 v' (o ++ [n]) := OwnI.put hown'
            clear hown' hgrow ho hb
            go_wp2
            go_roundg g
            case measure => omega
            case rel => exact ⟨i + 1, 0, o ++ [n], by omega, by simp, rfl, by omega, by simp; omega, ho2, hb2, fun _ => HNX.out, fun h => by omega⟩
          · have hd46 : byt s i ≠ 46 := by
              rw [hby]; intro h; exact hdot (UInt8.toNat_inj.1 h)
            have hdb : (((byt s i : Nat) : Int) == 46) = false := by rw [beq_eq_false_iff_ne]; omega
            by_cases hdg : 48 ≤ byt s i ∧ byt s i ≤ 57
            · obtain ⟨hd0, hd1⟩ := hdg
              by_cases hbig : 4294967295 < n
              · have HE := Lib.hid (ar_none (arcs_big hsp hbig))
                have hbig' : (4294967295 : Int) < (n : Nat) := by omega
                clear hin hout hsp hend hdrop hby hdot hd46 hbig
                go_wp2
                go_ret2
                exact ⟨_, ret_two6 rfl (by rw [HE.out.1]; rfl), by rw [HE.out.2]; exact OwnI.nil _ _ _, hb⟩
              · have hnx : sp s 0 = o ++ sp (s.drop (i + 1)) (n * 10 + (byt s i - 48)) := by rw [hsp, sp_other _ _ _ hdot, hby]
                have HNX := Lib.hid hnx
                have hsm' : ((n : Nat) : Int) ≤ 4294967295 := by omega
                have hsm : n ≤ 4294967295 := by omega
                clear hin hout hsp hend hdrop hby hdot hd46 hbig hnx
                go_wp2
                go_roundg g
                case measure => omega
                case rel => exact ⟨i + 1, n * 10 + (byt s i - 48), o, by omega, by simp, by congr 1; omega, by omega, by omega, ho, hb, fun _ => HNX.out, fun h => by omega⟩
            · have hnd : isDg s[i] = false := by
                unfold isDg; rw [← hby, ← Bool.not_eq_true, Bool.and_eq_true, decide_eq_true_eq, decide_eq_true_eq]; exact hdg
              have HE := Lib.hid (ar_none (arcs_bad_char hlt hnd hdot))
              have hcs : byt s i < 48 ∨ (48 ≤ byt s i ∧ 57 < byt s i) := by omega
              clear hin hout hsp hend hdrop hby hdot hd46 hdg hnd
              rcases hcs with c0 | ⟨c0, c1⟩
              all_goals
                go_wp2
                go_ret2
                exact ⟨_, ret_two6 rfl (by rw [HE.out.1]; rfl), by rw [HE.out.2]; exact OwnI.nil _ _ _, hb⟩
end Go.Proofs.YtmdibafofdghgaaGreatDoor
/- The document's reader: Left, Groups. -/
namespace Go.Proofs.YtmdibafofdghgaaGreatDoor
open Go.ChangeShapes Go.WideShapes Go.ChangeAt Go.RowKit P1 K
set_option linter.unusedVariables false

theorem qLeft_walk (b T : Nat) (s : List UInt8) (p : Nat) (c : Int) (ok : Ok s p c) (w : World) (h : Rdr w b T s p c) :
    Calls Tryz.prog 94 #[.pointer (some ⟨b, 0, none⟩)] w fun e w' => e = .returned (.int .i64 (((s.length - p : Nat) : Nat) : Int)) ∧ ∃ n, w' = w.drewN n := by
  obtain ⟨hs, hp, _, _⟩ := ok
  obtain ⟨c0, c1, c2, _, _⟩ := h.cells
  clear h
  go_enter Tryz.func94, Tryz.ntmps94
  go_wp2
  go_quiet (fail)
  go_wp2
  go_ret
  refine ⟨?_, nq, rfl⟩
  show Ending.returned (.int .i64 ((s.length : Int) - p)) = _
  rw [show ((s.length : Int) - p) = ((s.length - p : Nat) : Int) by omega]

def QRel (w : World) (l : List UInt8) (most : Int) (vn vi : Value) (wr : World) : Prop :=
  ∃ i n d : Nat, i ≤ 9 ∧ i ≤ l.length ∧ n < 128 ^ i ∧ vn = .int .i64 n ∧ vi = .int .i64 i ∧ (0 < i → ¬ byt l 0 = 128) ∧ rgo l most 9 0 0 = rgo l most (9 - i) i n ∧ wr = w.drewN d

set_option maxRecDepth 100000 in
set_option maxHeartbeats 1000000 in
theorem qGroups_in (b T : Nat) (s : List UInt8) (p : Nat) (most : Int) (ok : Ok s p 0) (h0 : -9223372036854775808 ≤ most) (h1 : most ≤ 9223372036854775807) (w : World) (h : Rdr w b T s p 0) :
    Calls Tryz.prog 93 #[.pointer (some ⟨b, 0, none⟩), .int .i64 most] w fun e w' => e = .returned (.int .i64 (rdG s p 0 most).1) ∧ Kp [b] w w' ∧ Rdr w' b T s (rdG s p 0 most).2.1 (rdG s p 0 most).2.2 := by
  obtain ⟨c0, c1, c2, f1, f2⟩ := h.cells
  obtain ⟨hs, hp, _, _⟩ := ok
  have H := Lib.hid h; clear h
  have hlen : (s.drop p).length = s.length - p := List.length_drop
  have hbs : ∀ i, byt (s.drop p) i = byt s (p + i) := byt_drop s p
  have HL := Lib.hid hlen; have HB := Lib.hid hbs
  clear hlen hbs
  go_enter Tryz.func93, Tryz.ntmps93
  go_wp2
  go_loopw [5, 6] (fun vn vi wr => QRel w (s.drop p) most vn vi wr) (fun vn vi wr => 9 - (intOf vi).toNat)
  case atStart => exact ⟨0, 0, 0, by omega, by omega, by omega, rfl, rfl, by omega, rfl, rfl⟩
  case round =>
    obtain ⟨i, n, d, hi, hil, hn, rfl, rfl, hb, he, rfl⟩ := hrel
    rw [HL.out] at hil
    have He := Lib.hid he; have Hb := Lib.hid hb
    clear hb he
    by_cases h9 : i < 9
    · have hle : (128 : Nat) ^ i ≤ 128 ^ 8 := Nat.pow_le_pow_right (by omega) (by omega)
      have hn8 : n < 72057594037927936 := by omega
      have Hn := Lib.hid hn; clear hle hn
      have q2 : (0 : Int) ≤ (p : Int) + (i : Int) := by omega
      have q3 : ((p : Int) + (i : Int)).toNat = p + i := by omega
      by_cases hend : s.length ≤ p + i
      · have hE : rgo (s.drop p) most 9 0 0 = (0, 0, 10) := by
          rw [He.out, show 9 - i = (8 - i) + 1 by omega]
          unfold rgo; rw [if_pos (by rw [HL.out]; omega)]
        have HE := Lib.hid (rdG_of_no hE (by decide))
        have q5 : (s.length : Int) ≤ (p : Int) + (i : Int) := by omega
        clear hE
        go_wp2
        have q1 : IntKind.i64.wrap ((p : Int) + (i : Int)) = (p : Int) + (i : Int) := IntWalk.i64_in _ (by omega)
        go_quiet (fail)
        clear q1 q3
        go_wp2
        go_ret
        rw [HE.out]
        exact ⟨rfl, ((Kp.refl _ _).drewN _).set _ (by simp) _, (show Rdr (w.drewN (d + nq)) b T s p 0 from H.out).setC 10⟩
      · have q5 : (p : Int) + (i : Int) < (s.length : Int) := by omega
        have q6 : p + i < s.length := by omega
        have hil' : i < (s.drop p).length := by rw [HL.out]; omega
        have hbt := byt_lt s (p + i)
        have hbq := HB.out i
        have hb0 := HB.out 0
        rw [Nat.add_zero] at hb0
        have Hil := Lib.hid hil'
        clear hend hil'
        by_cases hf : i = 0 ∧ byt s (p + i) = 128
        · obtain ⟨hi0, hf⟩ := hf
          have hE : rgo (s.drop p) most 9 0 0 = (0, 0, 3) := rgo_form _ most 8 0 (by have := Hil.out; omega) (by rw [← hf, ← hbq, hi0])
          have HE := Lib.hid (rdG_of_no hE (by decide))
          have hq1 : (((i : Nat) : Int) == 0) = true := by rw [beq_iff_eq]; omega
          have hq2 : (((byt s (p + i) : Nat) : Int) == 128) = true := by rw [beq_iff_eq]; omega
          clear hE hf hbq hb0 hi0
          go_wp2
          have q1 : IntKind.i64.wrap ((p : Int) + (i : Int)) = (p : Int) + (i : Int) := IntWalk.i64_in _ (by omega)
          go_quiet (fail)
          clear q1
          go_wp2
          have q1 : IntKind.i64.wrap ((p : Int) + (i : Int)) = (p : Int) + (i : Int) := IntWalk.i64_in _ (by omega)
          go_quiet (fail)
          clear q1 q3
          go_wp2
          go_ret
          rw [HE.out]
          exact ⟨rfl, ((Kp.refl _ _).drewN _).set _ (by simp) _, (show Rdr (w.drewN _) b T s p 0 from H.out).setC 3⟩
        · have hf2 : ¬ (i = 0 ∧ byt (s.drop p) 0 = 128) := fun ⟨e, h⟩ => hf ⟨e, by subst e; rw [Nat.add_zero, ← hb0]; exact h⟩
          have hq : ((((i : Nat) : Int) == 0) = true ∧ (((byt s (p + i) : Nat) : Int) == 128) = false) ∨ ((((i : Nat) : Int) == 0) = false) := by
            by_cases hi0 : i = 0
            · left; exact ⟨by rw [beq_iff_eq]; omega, by rw [beq_eq_false_iff_ne]; omega⟩
            · right; rw [beq_eq_false_iff_ne]; omega
          by_cases hm : most < ((n * 128 + byt s (p + i) % 128 : Nat) : Int)
          · have hE : rgo (s.drop p) most 9 0 0 = (0, 0, 2) := by rw [He.out, show 9 - i = (8 - i) + 1 by omega]; exact rgo_long _ most _ i n Hil.out hf2 (by rw [hbq]; exact hm)
            have HE := Lib.hid (rdG_of_no hE (by decide))
            have hm' : most < (n : Int) * 128 + (byt s (p + i) : Int) % 128 := by omega
            clear hE hm hf hf2 hbq hb0
            rcases hq with ⟨hq1, hq2⟩ | hq
            all_goals
              go_wp2
              have q1 : IntKind.i64.wrap ((p : Int) + (i : Int)) = (p : Int) + (i : Int) := IntWalk.i64_in _ (by omega)
              go_quiet (fail)
              clear q1
              go_wp2
              have q1 : IntKind.i64.wrap ((p : Int) + (i : Int)) = (p : Int) + (i : Int) := IntWalk.i64_in _ (by omega)
              go_quiet (fail)
              clear q1 q3
              go_wp2
              go_ret
              rw [HE.out]
              exact ⟨rfl, ((Kp.refl _ _).drewN _).set _ (by simp) _, (show Rdr (w.drewN _) b T s p 0 from H.out).setC 2⟩
          · have hm' : (n : Int) * 128 + (byt s (p + i) : Int) % 128 ≤ most := by omega
            by_cases hs8 : byt s (p + i) < 128
            · have hE : rgo (s.drop p) most 9 0 0 = (n * 128 + byt (s.drop p) i % 128, i + 1, 0) := by rw [He.out, show 9 - i = (8 - i) + 1 by omega]; exact rgo_done _ most _ i n Hil.out hf2 (by rw [hbq]; exact hm) (by rw [hbq]; exact hs8)
              rw [hbq] at hE
              have HE := Lib.hid (rdG_of_yes hE)
              clear hE hm hf hf2 hbq hb0
              rcases hq with ⟨hq1, hq2⟩ | hq
              all_goals
                go_wp2
                have q1 : IntKind.i64.wrap ((p : Int) + (i : Int)) = (p : Int) + (i : Int) := IntWalk.i64_in _ (by omega)
                go_quiet (fail)
                clear q1
                go_wp2
                have q1 : IntKind.i64.wrap ((p : Int) + (i : Int)) = (p : Int) + (i : Int) := IntWalk.i64_in _ (by omega)
                go_quiet (fail)
                clear q1 q3
                go_wp2
                go_ret
                rw [HE.out]
                exact ⟨rfl, ((Kp.refl _ _).drewN _).set _ (by simp) _, H.out.setPN _ (p + (i + 1)) _ (by simp; omega)⟩
            · have hE : rgo (s.drop p) most 9 0 0 = rgo (s.drop p) most (9 - (i + 1)) (i + 1) (n * 128 + byt (s.drop p) i % 128) := by rw [He.out, show 9 - i = (8 - i) + 1 by omega, show 9 - (i + 1) = 8 - i by omega]; exact rgo_more _ most _ i n Hil.out hf2 (by rw [hbq]; exact hm) (by rw [hbq]; exact hs8)
              rw [hbq] at hE
              have hb1 : ¬ byt (s.drop p) 0 = 128 := by
                rcases Nat.eq_zero_or_pos i with h | h
                · exact fun e => hf2 ⟨h, e⟩
                · exact Hb.out h
              have HE := Lib.hid hE
              have Hb1 := Lib.hid hb1
              clear hE hm hf hf2 hbq hb0 hb1
              rcases hq with ⟨hq1, hq2⟩ | hq
              all_goals
                go_wp2
                have q1 : IntKind.i64.wrap ((p : Int) + (i : Int)) = (p : Int) + (i : Int) := IntWalk.i64_in _ (by omega)
                go_quiet (fail)
                clear q1
                go_wp2
                have q1 : IntKind.i64.wrap ((p : Int) + (i : Int)) = (p : Int) + (i : Int) := IntWalk.i64_in _ (by omega)
                go_quiet (fail)
                clear q1 q3
                go_wp2
                go_roundw
                case measure => first | (simp [intOf]; done) | (simp [intOf]; omega)
                case rel =>
                  refine ⟨_, _, _, by omega, by rw [HL.out]; omega, ?_, ?_, ?_, fun _ => Hb1.out, HE.out, rfl⟩
                  · have := Hn.out
                    rw [Nat.pow_succ]; omega
                  · simp
                  · simp
    · obtain rfl : i = 9 := by omega
      have hE : rgo (s.drop p) most 9 0 0 = (0, 0, 3) := He.out
      have HE := Lib.hid (rdG_of_no hE (by decide))
      clear hE hn
      go_wp2
      go_ret
      rw [HE.out]
      exact ⟨rfl, ((Kp.refl _ _).drewN _).set _ (by simp) _, (show Rdr (w.drewN _) b T s p 0 from H.out).setC 3⟩

theorem qGroups_walk (b T : Nat) (s : List UInt8) (p : Nat) (c most : Int) (ok : Ok s p c) (h0 : -9223372036854775808 ≤ most) (h1 : most ≤ 9223372036854775807) (w : World) (h : Rdr w b T s p c) :
    Calls Tryz.prog 93 #[.pointer (some ⟨b, 0, none⟩), .int .i64 most] w fun e w' => e = .returned (.int .i64 (rdG s p c most).1) ∧ Kp [b] w w' ∧ Rdr w' b T s (rdG s p c most).2.1 (rdG s p c most).2.2 := by
  by_cases hc : c = 0
  · subst hc; exact qGroups_in b T s p most ok h0 h1 w h
  · rw [rdG_bad s p c most hc]
    obtain ⟨c0, c1, c2, f1, f2⟩ := h.cells
    have H := Lib.hid h; clear h
    have hn : (c != 0) = true := by rw [bne_iff_ne]; exact hc
    clear hc
    go_enter Tryz.func93, Tryz.ntmps93
    go_wp2
    go_ret
    exact ⟨rfl, Kp.refl _ _, H.out⟩
end Go.Proofs.YtmdibafofdghgaaGreatDoor
