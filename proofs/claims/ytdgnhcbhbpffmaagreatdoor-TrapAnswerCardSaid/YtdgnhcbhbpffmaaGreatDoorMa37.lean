/- Texts on the program and on the document, joined: Bok, TrpW, TrpR. -/
import Derived.Test.YtdgnhcbhbpffmaaGreatDoorRows
import Derived.Test.YtdgnhcbhbpffmaaGreatDoorMa01
import Derived.Test.YtdgnhcbhbpffmaaGreatDoorMa09
import Derived.Test.YtdgnhcbhbpffmaaGreatDoorMa33
import Derived.ProofKit
import Derived.IntWalk
import Derived.BigQuiet
import Derived.Deep.QuietTactic
import Derived.Deep.LoopGhost
import Derived.Deep.RegionHeld3
import Derived.OwnWalk
import Derived.Laws.OwnMore
import Derived.Laws.AppendOwn
import Derived.Test.YtdgnhcbhbpffmaaGreatDoorMa34
import Derived.Test.YtdgnhcbhbpffmaaGreatDoorMa36
/- gongbook: lists of texts: SameTexts at two that read alike, Lend, Kept; the builtin append of texts. -/
namespace Go.Proofs.YtdgnhcbhbpffmaaGreatDoor
open Go.ChangeShapes Go.WideShapes Go.ChangeAt Go.RowKit K
set_option linter.unusedVariables false

def StRel (w : World) (n g : Nat) (v5 v6 : Value) (wr : World) : Prop :=
  ∃ i, i + g = n ∧ v5 = .bool true ∧ v6 = .int .i64 (i : Nat) ∧ ∃ m, wr = w.drewN m
set_option maxRecDepth 100000 in
theorem sametexts_walk (ls : List (List UInt8)) (hn : ls.length ≤ 1000000) (ao bo : Option Addr) (ca cb : Nat) (w : World) (ha : RdS w ao ls) (hb : RdS w bo ls) :
    Calls Tryz.prog 32 #[.slice ao ls.length ca, .slice bo ls.length cb] w fun e w' => e = .returned (.bool true) ∧ ∃ m, w' = w.drewN m := by
  have HA := Lib.hid ha
  have HB := Lib.hid hb
  clear ha hb
  go_enter Tryz.func32, Tryz.ntmps32
  go_wp2
  go_loopg [5, 6] ls.length (fun g v5 v6 wr => StRel w ls.length g v5 v6 wr)
  case atStart => exact ⟨0, by omega, by simp, rfl, 0, rfl⟩
  case round =>
    obtain ⟨i, hi, rfl, rfl, m, rfl⟩ := hrel
    cases gk with
    | zero =>
      obtain rfl : i = ls.length := by omega
      clear hi
      go_wp2
      go_ret
      exact ⟨rfl, m, rfl⟩
    | succ g =>
      have hil : i < ls.length := by omega
      obtain ⟨x, hx⟩ : ∃ x, ls.getD i [] = x := ⟨_, rfl⟩
      obtain ⟨ga, offa, rfl, _, hca⟩ := HA.out.at hil hx
      obtain ⟨gb, offb, rfl, _, hcb⟩ := HB.out.at hil hx
      have c1 : (w.drewN m).cell? ⟨ga, offa + i, none⟩ = some (.string (bs x)) := hca
      have c2 : (w.drewN m).cell? ⟨gb, offb + i, none⟩ = some (.string (bs x)) := hcb
      have HD := Lib.hid (show ∀ k, (w.drewN m).drewN k = w.drewN (m + k) from fun k => by unfold World.drewN; simp [Nat.add_assoc])
      generalize w.drewN m = w5 at c1 c2 HD ⊢
      clear hca hcb HA HB hx
      go_wp2_with fail
      go_quiet (fail)
      go_wp2
      go_roundg g
      case measure => omega
      case rel => exact ⟨i + 1, by omega, by simp, by simp, m + nq, HD.out nq⟩
theorem text_info : (Tryz.prog.info? 9).map (fun i => (i.zero, i.size, i.bytes)) = some (some (.string .empty), 1, 16) := by kernel_rfl
/-- 'append(a, b...)' of texts: a is a list that the call made. -/
theorem spreadS {o : Oper} {a : Act} {K : Act → World → Prop} {Q : Exit → Act → World → Prop} {W : World} {s x : Operand} (ho : o.op = .call { callee := .builtin .append, args := #[s, x], argTypes := #[22, 22] }) (v : Value) (hs : a.eval s = v) {B : Nat} {xs ys : List (List UInt8)} (hown : OwnS W B 9 v xs) (hBW : B ≤ W.heap.size)
    {ao : Option Addr} {ca : Nat} (hx : a.eval x = .slice ao ys.length ca) (hr : RdS W ao ys) (hsh : (ao = none ∧ ys.length = 0 ∧ ca = 0) ∨ ∃ a, ao = some a) (hn : xs.length + ys.length ≤ 10000000)
    (h : ∀ v' w', OwnS w' B 9 v' (xs ++ ys) → W.grownBy w' v.ownBlock → K (a.put o.dst v') w') : o.wp Tryz.prog a W K Q := by
  obtain ⟨i0, hi, hz0, hz1, hz2⟩ := info_of text_info
  rcases hsh with ⟨rfl, h0, rfl⟩ | ⟨ad, rfl⟩
  · have hys : ys = [] := List.length_eq_zero_iff.1 h0
    subst hys
    have hrun := run_append_owned_none (P := Tryz.prog) (w := W) B 22 o.type 9 i0 1 Tryz.underlying22 hi _ _ _ hown
    unfold Oper.wp
    simp [execOp, ho, resolve, invoke, builtin, hs, hx, hrun, Result.andThen]
    exact h _ _ (by rw [List.append_nil]; exact hown) ⟨rfl, rfl, rfl, Nat.le_refl _, fun _ _ _ => rfl⟩
  · refine wp_append_own W s x 22 ho B 9 i0 (.string .empty) 1 16 Tryz.underlying22 hi hz0 hz1 hz2 rfl (by decide) v xs.length (txts xs) hs hown ad ys.length ca (txts ys) hx (by rw [txts_len, Nat.mul_one]) hr.each (txts_one ys) (by unfold maxLen; omega) (by omega) hBW ?_
    intro v' w' hown' hg _
    exact h v' w' (OwnS.put hown') hg
theorem spreadSL {ops : Array Oper} {rest : List Oper} {o : Oper} {a : Act} {Q : Exit → Act → World → Prop} {W : World} (hgd : o.guard = none) {s x : Operand} (ho : o.op = .call { callee := .builtin .append, args := #[s, x], argTypes := #[22, 22] }) (v : Value) (hs : a.eval s = v) {B : Nat} {xs ys : List (List UInt8)} (hown : OwnS W B 9 v xs) (hBW : B ≤ W.heap.size)
    {ao : Option Addr} {ca : Nat} (hx : a.eval x = .slice ao ys.length ca) (hr : RdS W ao ys) (hsh : (ao = none ∧ ys.length = 0 ∧ ca = 0) ∨ ∃ a, ao = some a) (hn : xs.length + ys.length ≤ 10000000)
    (h : ∀ v' w', OwnS w' B 9 v' (xs ++ ys) → W.grownBy w' v.ownBlock → wpList Tryz.prog ops Q rest (a.put o.dst v') w') : wpList Tryz.prog ops Q (o :: rest) a W :=
  wpList_plain hgd fun _ hK => spreadS ho v hs hown hBW hx hr hsh hn fun v' w' h1 h2 => hK _ _ (h v' w' h1 h2)
theorem rds_one (w : World) (x : List UInt8) : RdS (w.alloc (.cells #[.string (bs x)] 9)) (some ⟨w.heap.size, 0, none⟩) [x] :=
  .inr ⟨w.heap.size, 0, rfl, by simp, fun i hi => by
    obtain rfl : i = 0 := by simpa using hi
    rw [cellRow (rowNew w _)]; rfl⟩
def behindB : List UInt8 := [98, 101, 104, 105, 110, 100]
set_option maxRecDepth 100000 in
set_option maxHeartbeats 1000000 in
theorem lend_walk (ls : List (List UInt8)) (hn : ls.length ≤ 1000000) (ao : Option Addr) (ca : Nat) (hsh : (ao = none ∧ ls.length = 0 ∧ ca = 0) ∨ ∃ a, ao = some a) (w : World) (hr : RdS w ao ls) :
    Calls Tryz.prog 9 #[.slice ao ls.length ca] w fun e w' => ∃ g cap, e = .returned (.slice (some ⟨g, 0, none⟩) ls.length cap) ∧ ls.length + 1 ≤ cap ∧ cap ≤ 9223372036854775807 ∧ RdS w' (some ⟨g, 0, none⟩) (ls ++ [behindB]) ∧ Below w.heap.size w w' := by
  go_enter Tryz.func9, Tryz.ntmps9
  go_wp2_with (at_builtin; refine spreadSL rfl rfl _ rfl (OwnS.nil w w.heap.size 9) (Nat.le_refl _) rfl hr hsh ?c1 ?_)
  case c1 => simp; omega
  intro v1 w1 ho1 hg1
  have b1 := (Below.refl w.heap.size w).grown hg1 (Nat.le_refl _) (fun k hk => by simp [Value.ownBlock] at hk)
  clear hg1
  obtain ⟨a1, c1, rfl, hle1, hm1, _, _⟩ := ho1.form
  have hs1 := b1.size
  have a2 := (Below.refl w1.heap.size w1).alloc (Nat.le_refl _) (.cells #[.string (bs behindB)] 9)
  have ho2 := ho1.below a2
  have hr2 := rds_one w1 behindB
  have b2 := b1.trans (a2.mono hs1)
  have hs2 : w.heap.size ≤ (w1.alloc (.cells #[.string (bs behindB)] 9)).heap.size := b2.size
  unfold behindB at *
  clear ho1 b1 a2
  go_wp2_with (at_builtin; refine spreadSL rfl rfl _ rfl ho2 hs2 rfl hr2 (.inr ⟨_, rfl⟩) ?d1 ?_)
  case d1 => simp; omega
  intro v3 w3 ho3 hg3
  have b3 := b2.grown hg3 hs2 (fun k hk => (World.ownsRow.lt ho2 k hk).1)
  clear hg3 ho2 hr2 b2
  obtain ⟨a3, c3, rfl, hle3, hm3, hr3, hsh3⟩ := ho3.form
  rw [List.length_append, List.length_singleton] at hle3 hsh3 ⊢
  rcases hsh3 with ⟨_, h0, _⟩ | ⟨g, rfl, _⟩
  · omega
  unfold maxLen at hm3
  have HR := Lib.hid hr3
  clear ho3 hr3
  have y1 : ((ls.length : Nat) : Int) ≤ ((c3 : Nat) : Int) := by omega
  have y2 : (0 : Int) ≤ ((ls.length : Nat) : Int) := by omega
  go_wp2
  go_ret
  exact ⟨g, c3, rfl, hle3, hm3, HR.out, b3⟩
set_option maxRecDepth 100000 in
set_option maxHeartbeats 1000000 in
theorem kept_walk (ls : List (List UInt8)) (hn : ls.length ≤ 1000000) (g cap : Nat) (hc : ls.length + 1 ≤ cap) (hm : cap ≤ 9223372036854775807) (bo : Option Addr) (cb : Nat) (w : World) (hr : RdS w (some ⟨g, 0, none⟩) (ls ++ [behindB])) (hs : RdS w bo ls) :
    Calls Tryz.prog 13 #[.slice (some ⟨g, 0, none⟩) ls.length cap, .slice bo ls.length cb] w fun e w' => e = .returned (.bool true) ∧ ∃ m, w' = w.drewN m := by
  have HS := Lib.hid (sametexts_walk ls hn (some ⟨g, 0, none⟩) bo cap cb w hr.pre hs)
  have c1 : w.cell? ⟨g, ls.length, none⟩ = some (.string (bs [98, 101, 104, 105, 110, 100])) := hr.last
  have y1 : IntKind.i64.wrap (((ls.length : Nat) : Int) + 1) = ((ls.length : Nat) : Int) + 1 := IntWalk.i64_in _ (by omega)
  have y2 : (0 : Int) ≤ ((ls.length : Nat) : Int) + 1 := by omega
  have y3 : (((ls.length : Nat) : Int) + 1).toNat = ls.length + 1 := by omega
  have y4 : ((ls.length : Nat) : Int) + 1 ≤ ((cap : Nat) : Int) := by omega
  have y5 : (((ls.length : Nat) : Int) < ((ls.length + 1 : Nat) : Int)) = True := eq_true (by omega)
  have y6 : ls.length < ls.length + 1 := by omega
  clear hr hs hc
  go_enter Tryz.func13, Tryz.ntmps13
  go_wp2_with fail
  refine HS.out.mono ?_
  rintro e w1 ⟨rfl, m, rfl⟩
  have c2 : (w.drewN m).cell? ⟨g, ls.length, none⟩ = some (.string (bs [98, 101, 104, 105, 110, 100])) := c1
  go_wp2
  go_ret
  exact ⟨rfl, m, rfl⟩
end Go.Proofs.YtdgnhcbhbpffmaaGreatDoor
/- The laws of traps, on calls that keep their word: works, small. -/
namespace Go.Proofs.YtdgnhcbhbpffmaaGreatDoor
open Go.ChangeShapes Go.WideShapes Go.ChangeAt Go.RowKit K P1 B5
open D8 (Bd Un lst deU)
open T9 (Tr bU bI msg msgB ofU m3 deM)
set_option linter.unusedVariables false

/-- Traps that are not too long for the program's walk. -/
def LimQ (t : Tr) : Prop := t.c.length ≤ 140737488351232 ∧ t.o.length ≤ 1000000 ∧ t.l.length ≤ 1000000 ∧ t.fits ∧ LimP t.l
theorem LimQ.lim {t : Tr} (h : LimQ t) : LimT t := ⟨h.1, by have := h.2.1; omega, h.2.2.1, h.2.2.2.1, h.2.2.2.2.lim⟩
/-- What the program's calls are known to answer, in any world of which I. -/
structure TrpOk (I : World → Prop) : Prop where
  keep : ∀ a b, I a → Below a.heap.size a b → I b
  tp : ∀ w, I w → Tp w
  check : ∀ (t : Tr) (ao : Option Addr) (cap : Nat) (w : World), LimQ t → ((ao = none ∧ t.l.length = 0 ∧ cap = 0) ∨ ∃ a, ao = some a) → I w → RdB w ao t.l → Calls Tryz.prog 19 #[.agg #[.string (bs t.c), .bool t.f, .int .i64 t.r, .int .i64 t.n, .string (bs t.o), .slice ao t.l.length cap]] w fun e w' => e = .returned (.int .i64 (tcE t : Nat)) ∧ Below w.heap.size w w'
  encode : ∀ (t : Tr) (ao : Option Addr) (cap : Nat) (w : World), LimQ t → ((ao = none ∧ t.l.length = 0 ∧ cap = 0) ∨ ∃ a, ao = some a) → I w → RdB w ao t.l → Calls Tryz.prog 15 #[.agg #[.string (bs t.c), .bool t.f, .int .i64 t.r, .int .i64 t.n, .string (bs t.o), .slice ao t.l.length cap]] w fun e w' => e = .returned (.tuple #[.string (bs (teS t)), .int .i64 (teE t : Nat)]) ∧ Below w.heap.size w w'
  answer : ∀ (t : Tr) (ao : Option Addr) (cap : Nat) (w : World), LimQ t → ((ao = none ∧ t.l.length = 0 ∧ cap = 0) ∨ ∃ a, ao = some a) → I w → RdB w ao t.l → Calls Tryz.prog 17 #[.agg #[.string (bs t.c), .bool t.f, .int .i64 t.r, .int .i64 t.n, .string (bs t.o), .slice ao t.l.length cap]] w fun e w' => e = .returned (.tuple #[.string (bs (taS t)), .int .i64 (taE t : Nat)]) ∧ Below w.heap.size w w'
  decode : ∀ (s : List UInt8) (known : List (List UInt8)) (ko : Option Addr) (kc : Nat) (w : World), s.length ≤ 1000000 → known.length ≤ 1000000 → I w → RdS w ko known → Calls Tryz.prog 10 #[.string (bs s), .slice ko known.length kc] w (DtPost s known w)
  same : ∀ (t u : Tr) (ao bo : Option Addr) (cap cb : Nat) (w : World), t.l.length * 48 ≤ 140737488351280 → u.l.length * 48 ≤ 140737488351280 → I w → RdB w ao t.l → RdB w bo u.l → Calls Tryz.prog 21 #[.agg #[.string (bs t.c), .bool t.f, .int .i64 t.r, .int .i64 t.n, .string (bs t.o), .slice ao t.l.length cap], .agg #[.string (bs u.c), .bool u.f, .int .i64 u.r, .int .i64 u.n, .string (bs u.o), .slice bo u.l.length cb]] w fun e w' => e = .returned (.bool (sameT t u)) ∧ Below w.heap.size w w'
theorem te_ok {t : Tr} (h : teE t = 0) : t.ok = true ∧ teS t = msg t.c t.un ∧ (msg t.c t.un).length ≤ 65535 := by
  unfold teE at h
  cases hk : t.ok
  · rw [hk] at h; cases h
  · rw [hk] at h
    have h' : mgE t.c t.un = 0 := h
    unfold mgE at h'
    by_cases hl : (msg t.c t.un).length ≤ 65535
    · refine ⟨rfl, ?_, hl⟩
      unfold teS mgS
      rw [hk, if_pos hl]; rfl
    · rw [if_neg hl] at h'; cases h'
theorem te_back {t : Tr} (h : teE t = 0) (hf : t.fits) (known : List (List UInt8)) : dtT (teS t) known = (if knows known t.c then t else not9) ∧ dtE (teS t) known = if knows known t.c then 0 else 91 := by
  obtain ⟨h1, h2, h3⟩ := te_ok h
  rw [h2]
  exact dt_yes h3 (T9.deM_back h1 hf) known
theorem dtT_len (s : List UInt8) (known : List (List UInt8)) : (dtT s known).l.length ≤ 4096 := by
  unfold dtT
  split
  · split
    · next t h =>
      split
      · have hk := T9.deM_ok h
        have := ((D8.Un.ok_iff _).1 ((T9.Tr.ok_iff t).1 hk).2).2.2.2.2.1
        have e : t.un.l.length = t.l.length + 2 := rfl
        omega
      · show ([] : List Bd).length ≤ _; simp
    · show ([] : List Bd).length ≤ _; simp
  · show ([] : List Bd).length ≤ _; simp
def PUB : List UInt8 := [112, 117, 98, 108, 105, 99]
def tw : Tr := ⟨PUB, false, 0, 300, [49, 46, 51, 46, 54, 46, 49, 46, 54, 46, 51, 46, 49, 46, 49, 46, 53, 46, 49], []⟩
theorem tw_ok : teE tw = 0 := by decide +kernel
theorem tw_fits : tw.fits := ⟨⟨(show (-9223372036854775808 : Int) ≤ 300 by omega), (show (300 : Int) ≤ 9223372036854775807 by omega)⟩, fun x hx => by cases hx⟩
theorem tw_back : dtT (teS tw) [PUB] = tw ∧ dtE (teS tw) [PUB] = 0 := by
  obtain ⟨h1, h2⟩ := te_back tw_ok tw_fits [PUB]
  rw [show knows [PUB] tw.c = true by decide] at h1 h2
  exact ⟨h1, h2⟩
theorem tw_len : (teS tw).length ≤ 1000000 := by
  obtain ⟨_, h2, h3⟩ := te_ok tw_ok
  rw [h2]; omega
theorem tw_lim : LimQ tw := ⟨by decide, by decide, by decide, tw_fits, fun x hx => by cases hx⟩
set_option maxRecDepth 100000 in
set_option maxHeartbeats 1000000 in
theorem TrpOk.works {I : World → Prop} (K : TrpOk I) (w : World) (hw : I w) : Calls Tryz.prog 8 #[] w fun e w' => e = .returned (.bool true) ∧ Below w.heap.size w w' := by
  have hE := fun w1 (h : I w1) => K.encode tw none 0 w1 tw_lim (.inl ⟨rfl, rfl, rfl⟩) h (.inl rfl)
  rw [tw_ok] at hE
  have hD := fun ko kc w1 (h : I w1) (h2 : RdS w1 ko [PUB]) => K.decode (teS tw) [PUB] ko kc w1 tw_len (by decide) h h2
  unfold DtPost at hD
  rw [tw_back.1, tw_back.2] at hD
  have hS1 := fun bo cb w1 (h : I w1) (h2 : RdB w1 bo tw.l) => K.same tw tw none bo 0 cb w1 (by decide) (by decide) h (.inl rfl) h2
  have hS2 := fun bo cb w1 (h : I w1) (h2 : RdB w1 bo tw.l) => K.same tw tw bo none cb 0 w1 (by decide) (by decide) h h2 (.inl rfl)
  rw [sameT_self] at hS1 hS2
  have HE := Lib.hid hE
  have HD := Lib.hid hD
  have HS1 := Lib.hid hS1
  have HS2 := Lib.hid hS2
  have HK := Lib.hid K.keep
  have HI := Lib.hid hw
  clear hE hD hS1 hS2 K hw
  generalize teS tw = S at *
  go_enter Tryz.func8, Tryz.ntmps8
  have ht0 : Tq (w.alloc (.cells #[.string { data := #[112, 117, 98, 108, 105, 99] }, .bool false, .int .i64 0, .int .i64 300, .string { data := #[49, 46, 51, 46, 54, 46, 49, 46, 54, 46, 51, 46, 49, 46, 49, 46, 53, 46, 49] }, .slice none 0 0] 27)) w.heap.size tw none 0 := rowNew w _
  have b0 := alloc_in w (.cells #[.string { data := #[112, 117, 98, 108, 105, 99] }, .bool false, .int .i64 0, .int .i64 300, .string { data := #[49, 46, 51, 46, 54, 46, 49, 46, 54, 46, 51, 46, 49, 46, 49, 46, 53, 46, 49] }, .slice none 0 0] 27)
  go_wp2_with fail
  generalize w.alloc (.cells #[.string { data := #[112, 117, 98, 108, 105, 99] }, .bool false, .int .i64 0, .int .i64 300, .string { data := #[49, 46, 51, 46, 54, 46, 49, 46, 54, 46, 51, 46, 49, 46, 49, 46, 53, 46, 49] }, .slice none 0 0] 27) = w0 at *
  refine (HE.out _ (HK.out _ _ HI.out b0)).mono ?_
  rintro e w1 ⟨rfl, d1⟩
  have a2 := alloc_in w1 (.cells #[.string { data := #[112, 117, 98, 108, 105, 99] }] 9)
  have hk2 : RdS (w1.alloc (.cells #[.string { data := #[112, 117, 98, 108, 105, 99] }] 9)) (some ⟨w1.heap.size, 0, none⟩) [PUB] := rds_one w1 PUB
  have b2 := (b0.trans (d1.mono b0.size)).trans (a2.mono (b0.trans (d1.mono b0.size)).size)
  have ht2 := (ht0.below d1).below a2
  clear b0 d1 a2 ht0
  go_wp2_with fail
  refine (HD.out _ _ _ (HK.out _ _ HI.out b2) hk2).mono ?_
  rintro e w3 ⟨ao, ct, rfl, hr3, d3⟩
  have a4 := alloc_in w3 (.cells #[.string (bs tw.c), .bool tw.f, .int .i64 tw.r, .int .i64 tw.n, .string (bs tw.o), .slice ao tw.l.length ct] 27)
  have hu4 := Tq.new w3 tw ao ct
  have hr4 := hr3.below a4
  have b4 := (b2.trans (d3.mono b2.size)).trans (a4.mono (b2.trans (d3.mono b2.size)).size)
  have ht4 := (ht2.below d3).below a4
  clear b2 d3 a4 ht2 hk2 hr3
  obtain ⟨z0, z1, z2, z3, z4, z5⟩ := ht4.cells
  obtain ⟨y0, y1, y2, y3, y4, y5⟩ := hu4.cells
  go_wp2_with fail
  refine (HS1.out _ _ _ (HK.out _ _ HI.out b4) hr4).mono ?_
  rintro e w5 ⟨rfl, d5⟩
  have b5 := b4.trans (d5.mono b4.size)
  have hr5 := hr4.below d5
  clear z0 z1 z2 z3 z4 z5 y0 y1 y2 y3 y4 y5
  obtain ⟨z0, z1, z2, z3, z4, z5⟩ := (ht4.below d5).cells
  obtain ⟨y0, y1, y2, y3, y4, y5⟩ := (hu4.below d5).cells
  clear b4 d5 hr4 ht4 hu4
  go_wp2_with fail
  refine (HS2.out _ _ _ (HK.out _ _ HI.out b5) hr5).mono ?_
  rintro e w6 ⟨rfl, d6⟩
  go_wp2
  go_ret
  exact ⟨rfl, b5.trans (d6.mono b5.size)⟩
def smY (x : Bd) : Bool := decide (x.s.length ≤ 2000) && decide (x.o.length ≤ 2000)
def sm9 (t : Tr) : Bool := (((decide (t.l.length ≤ 30) || decide (4096 < t.l.length)) && decide (t.l.length ≤ 8192)) && decide (t.o.length ≤ 2000)) && t.l.all smY
theorem smY_take {xs : List Bd} {i : Nat} (hi : i < xs.length) : (xs.take (i + 1)).all smY = ((xs.take i).all smY && smY (xs.getD i nob)) := by
  rw [List.take_succ_eq_append_getElem hi, List.all_append, List.getD_eq_getElem?_getD, List.getElem?_eq_getElem hi]
  simp
theorem smY_not {xs : List Bd} {i : Nat} (hi : i < xs.length) (h : smY (xs.getD i nob) = false) : xs.all smY = false := by
  rw [List.getD_eq_getElem?_getD, List.getElem?_eq_getElem hi] at h
  rw [List.all_eq_false]
  exact ⟨_, List.getElem_mem hi, by simpa using h⟩
theorem sm9_facts {t : Tr} (h : sm9 t = true) : t.l.length ≤ 8192 ∧ t.o.length ≤ 2000 ∧ ∀ x ∈ t.l, x.s.length ≤ 2000 ∧ x.o.length ≤ 2000 := by
  unfold sm9 smY at h
  simp only [Bool.and_eq_true, Bool.or_eq_true, decide_eq_true_eq, List.all_eq_true] at h
  exact ⟨h.1.1.2, h.1.2, h.2⟩
theorem sm9_lim {t : Tr} (h : sm9 t = true) (hc : t.c.length ≤ 140737488351232) (hf : t.fits) (hx : Lim t.l) : LimQ t := by
  obtain ⟨h1, h2, h3⟩ := sm9_facts h
  exact ⟨hc, by omega, by omega, hf, fun x hm => ⟨by have := (h3 x hm).2; omega, by have := (h3 x hm).1; omega, (hx x hm).2.2⟩⟩
def Sm9Rel (t : Tr) (ao : Option Addr) (cap : Nat) (w : World) (g : Nat) (v : Value) (wr : World) : Prop :=
  ∃ i : Nat, i + g = t.l.length ∧ v = .int .i64 (i : Nat) ∧ (t.l.take i).all smY = true ∧ Tq wr w.heap.size t ao cap ∧ Below w.heap.size w wr
set_option maxRecDepth 100000 in
set_option maxHeartbeats 2000000 in
theorem small9_walk (t : Tr) (ao : Option Addr) (cap : Nat) (hl : t.l.length ≤ 140737488351232) (ho : t.o.length ≤ 140737488351232) (hx : Lim t.l) (w : World) (hr : RdB w ao t.l) :
    Calls Tryz.prog 14 #[.agg #[.string (bs t.c), .bool t.f, .int .i64 t.r, .int .i64 t.n, .string (bs t.o), .slice ao t.l.length cap]] w fun e w' => e = .returned (.bool (sm9 t)) ∧ Below w.heap.size w w' := by
  have hba := alloc_in w (.cells #[.string (bs t.c), .bool t.f, .int .i64 t.r, .int .i64 t.n, .string (bs t.o), .slice ao t.l.length cap] 27)
  have htq := Tq.new w t ao cap
  have hways : ((((30 : Int) < ((t.l.length : Nat) : Int) ∧ ((t.l.length : Nat) : Int) ≤ 4096) ∨ (((30 : Int) < ((t.l.length : Nat) : Int) ∧ (4096 : Int) < ((t.l.length : Nat) : Int)) ∧ (8192 : Int) < ((t.l.length : Nat) : Int))) ∨ (((((t.l.length : Nat) : Int) ≤ 30 ∧ ((t.l.length : Nat) : Int) ≤ 8192) ∨ (((30 : Int) < ((t.l.length : Nat) : Int) ∧ (4096 : Int) < ((t.l.length : Nat) : Int)) ∧ ((t.l.length : Nat) : Int) ≤ 8192)) ∧ (2000 : Int) < ((t.o.length : Nat) : Int))) ∨ (((((t.l.length : Nat) : Int) ≤ 30 ∧ ((t.l.length : Nat) : Int) ≤ 8192) ∨ (((30 : Int) < ((t.l.length : Nat) : Int) ∧ (4096 : Int) < ((t.l.length : Nat) : Int)) ∧ ((t.l.length : Nat) : Int) ≤ 8192)) ∧ ((t.o.length : Nat) : Int) ≤ 2000) := by omega
  rcases hways with hbad | ⟨hgood, h2000⟩
  · have e : sm9 t = false := by
      have : (((decide (t.l.length ≤ 30) || decide (4096 < t.l.length)) && decide (t.l.length ≤ 8192)) && decide (t.o.length ≤ 2000)) = false := by
        rw [Bool.and_eq_false_iff, Bool.and_eq_false_iff, Bool.or_eq_false_iff, decide_eq_false_iff_not, decide_eq_false_iff_not, decide_eq_false_iff_not, decide_eq_false_iff_not]
        omega
      unfold sm9; rw [this]; rfl
    rw [e]
    clear e hr hx htq
    rcases hbad with (⟨h1, h2⟩ | ⟨⟨h1, h2⟩, h3⟩) | ⟨⟨h1, h2⟩ | ⟨⟨h1, h2⟩, h3⟩, h4⟩
    all_goals
      go_enter Tryz.func14, Tryz.ntmps14
      go_wp2
      go_ret
      exact ⟨rfl, hba⟩
  · have e : sm9 t = t.l.all smY := by
      have : (((decide (t.l.length ≤ 30) || decide (4096 < t.l.length)) && decide (t.l.length ≤ 8192)) && decide (t.o.length ≤ 2000)) = true := by
        rw [Bool.and_eq_true, Bool.and_eq_true, Bool.or_eq_true, decide_eq_true_eq, decide_eq_true_eq, decide_eq_true_eq, decide_eq_true_eq]
        omega
      unfold sm9; rw [this]; rfl
    rw [e]
    clear e
    have HST := Lib.hid (show Sm9Rel t ao cap w t.l.length (.int .i64 (0 : Nat)) _ from ⟨0, by omega, rfl, rfl, htq, hba⟩)
    rcases hgood with ⟨h1, h2⟩ | ⟨⟨h1, h2⟩, h3⟩
    all_goals
      go_enter Tryz.func14, Tryz.ntmps14
      go_wp2_with fail
      go_loopg [3] t.l.length (fun g v wr => Sm9Rel t ao cap w g v wr)
      case atStart => exact HST.out
      case round =>
        clear HST
        obtain ⟨i, hi, rfl, hall, hq, hb⟩ := hrel
        obtain ⟨z0, z1, z2, z3, z4, z5⟩ := hq.cells
        cases gk with
        | zero =>
          obtain rfl : i = t.l.length := by omega
          rw [List.take_length] at hall
          have HALL := Lib.hid hall
          clear hall
          go_wp2
          go_ret
          exact ⟨by rw [HALL.out]; rfl, hb⟩
        | succ g =>
          have hlt : i < t.l.length := by omega
          have HTK := Lib.hid (smY_take hlt)
          have HNO := Lib.hid (fun h => smY_not (xs := t.l) hlt h)
          obtain ⟨x, hxe⟩ : ∃ x, t.l.getD i nob = x := ⟨_, rfl⟩
          obtain ⟨b, off, rfl, hbl, c0, c1, c2, c3⟩ := (hr.below hb).at hlt hxe
          rw [hxe] at HTK HNO
          rw [hall] at HTK
          clear hxe hall
          by_cases s1 : x.s.length ≤ 2000
          · have s1' : ((x.s.length : Nat) : Int) ≤ 2000 := by omega
            by_cases s2 : x.o.length ≤ 2000
            · have s2' : ((x.o.length : Nat) : Int) ≤ 2000 := by omega
              have HS := Lib.hid (show smY x = true by unfold smY; rw [decide_eq_true s1, decide_eq_true s2]; rfl)
              clear s1 s2
              go_wp2
              go_roundg g
              case measure => omega
              case rel => exact ⟨i + 1, by omega, by simp, by rw [HTK.out, HS.out]; rfl, hq, hb⟩
            · have s2' : (2000 : Int) < ((x.o.length : Nat) : Int) := by omega
              have HS := Lib.hid (HNO.out (show smY x = false by unfold smY; rw [decide_eq_false s2, Bool.and_false]))
              clear s1 s2
              go_wp2
              go_ret
              exact ⟨by rw [HS.out]; rfl, hb⟩
          · have s1' : (2000 : Int) < ((x.s.length : Nat) : Int) := by omega
            have HS := Lib.hid (HNO.out (show smY x = false by unfold smY; rw [decide_eq_false s1, Bool.false_and]))
            clear s1
            go_wp2
            go_ret
            exact ⟨by rw [HS.out]; rfl, hb⟩
end Go.Proofs.YtdgnhcbhbpffmaaGreatDoor
/- TrapReads, walked on calls that keep their word. -/
namespace Go.Proofs.YtdgnhcbhbpffmaaGreatDoor
open Go.ChangeShapes Go.WideShapes Go.ChangeAt Go.RowKit K P1 B5
open D8 (Bd Un lst deU)
open T9 (Tr bU bI msg msgB ofU m3 deM)
set_option linter.unusedVariables false

theorem below_drewN (w : World) (m : Nat) : Below w.heap.size w (w.drewN m) := ⟨rfl, rfl, rfl, Nat.le_refl _, fun _ _ => rfl⟩
set_option maxRecDepth 100000 in
set_option maxHeartbeats 2000000 in
theorem trapReads_walk (I : World → Prop) (K : TrpOk I) (s : List UInt8) (hs : s.length ≤ 140737488351232) (known : List (List UInt8)) (ko : Option Addr) (kc : Nat) (hk : known.length ≤ 140737488351232) (hsh : (ko = none ∧ known.length = 0 ∧ kc = 0) ∨ ∃ a, ko = some a) (w : World) (hw : I w) (hr : RdS w ko known) :
    Calls Tryz.prog 3 #[.string (bs s), .slice ko known.length kc] w fun e w' => e = .returned (.bool true) ∧ Below w.heap.size w w' := by
  have HW := Lib.hid (fun w1 (h : I w1) => K.works w1 h)
  have HK := Lib.hid K.keep
  have HI := Lib.hid hw
  have hways : (((3000 : Int) < ((s.length : Nat) : Int) ∧ ((s.length : Nat) : Int) ≤ 65535) ∨ (((3000 : Int) < ((s.length : Nat) : Int) ∧ (65535 : Int) < ((s.length : Nat) : Int)) ∧ (131072 : Int) < ((s.length : Nat) : Int)) ∨ ((((s.length : Nat) : Int) ≤ 3000 ∧ ((s.length : Nat) : Int) ≤ 131072) ∧ (50 : Int) < ((known.length : Nat) : Int)) ∨ ((((3000 : Int) < ((s.length : Nat) : Int) ∧ (65535 : Int) < ((s.length : Nat) : Int)) ∧ ((s.length : Nat) : Int) ≤ 131072) ∧ (50 : Int) < ((known.length : Nat) : Int))) ∨
      (((((s.length : Nat) : Int) ≤ 3000 ∧ ((s.length : Nat) : Int) ≤ 131072) ∧ ((known.length : Nat) : Int) ≤ 50) ∨ ((((3000 : Int) < ((s.length : Nat) : Int) ∧ (65535 : Int) < ((s.length : Nat) : Int)) ∧ ((s.length : Nat) : Int) ≤ 131072) ∧ ((known.length : Nat) : Int) ≤ 50)) := by omega
  rcases hways with hbad | hgood
  · clear K hw hr hsh
    rcases hbad with ⟨h1, h2⟩ | ⟨⟨h1, h2⟩, h3⟩ | ⟨⟨h1, h2⟩, h3⟩ | ⟨⟨⟨h1, h2⟩, h3⟩, h4⟩
    all_goals
      go_enter Tryz.func3, Tryz.ntmps3
      go_wp2_with fail
      refine (HW.out w HI.out).mono ?_
      rintro e w1 ⟨rfl, b1⟩
      go_wp2
      go_ret
      exact ⟨rfl, b1⟩
  · have hsl : s.length ≤ 1000000 := by omega
    have hkl : known.length ≤ 1000000 := by omega
    have HL := Lib.hid (lend_walk known hkl ko kc hsh w hr)
    have HD := Lib.hid (fun ko2 kc2 w1 (h : I w1) (h2 : RdS w1 ko2 known) => K.decode s known ko2 kc2 w1 hsl hkl h h2)
    have HQ := Lib.hid (fun w1 (h2 : RdS w1 ko known) => qdecode9_walk s hs known ko kc hk w1 h2)
    unfold DtPost at HD HQ
    have hlen := dtT_len s known
    have hself := sameT_self (dtT s known)
    generalize dtT s known = t at *
    generalize dtE s known = E at *
    have HS := Lib.hid (fun ao bo ca cb w1 (h1 : RdB w1 ao t.l) (h2 : RdB w1 bo t.l) => qsame9_walk t t ao bo ca cb (by omega) (by omega) w1 h1 h2)
    rw [hself] at HS
    have HKp := Lib.hid (fun g cap (hc : known.length + 1 ≤ cap) (hm : cap ≤ 9223372036854775807) w1 (h1 : RdS w1 (some ⟨g, 0, none⟩) (known ++ [behindB])) (h2 : RdS w1 ko known) => kept_walk known hkl g cap hc hm ko kc w1 h1 h2)
    have HR := Lib.hid hr
    have hE1 : (((E : Nat) : Int) == ((E : Nat) : Int)) = true := by simp
    clear K hw hr hsh hself hsl hs hk
    rcases hgood with ⟨⟨h1, h2⟩, h3⟩ | ⟨⟨⟨h1, h2⟩, h3⟩, h4⟩
    all_goals
      go_enter Tryz.func3, Tryz.ntmps3
      go_wp2_with fail
      refine HL.out.mono ?_
      rintro e w1 ⟨g, cap, rfl, hc1, hm1, hrs, b1⟩
      have hk1 := HR.out.below b1
      have HC := Lib.hid (And.intro hc1 hm1)
      clear hc1 hm1
      go_wp2_with fail
      refine (HD.out _ _ _ (HK.out _ _ HI.out b1) hrs.pre).mono ?_
      rintro e w2 ⟨ao, ca, rfl, hr2, d2⟩
      have a2 := alloc_in w2 (.cells #[.string (bs t.c), .bool t.f, .int .i64 t.r, .int .i64 t.n, .string (bs t.o), .slice ao t.l.length ca] 27)
      have ht3 := Tq.new w2 t ao ca
      have hr3 := hr2.below a2
      have b3 := (b1.trans (d2.mono b1.size)).trans (a2.mono (b1.trans (d2.mono b1.size)).size)
      have hrs3 := (hrs.below d2).below a2
      have hk3 := (hk1.below d2).below a2
      clear b1 d2 a2 hr2 hrs hk1
      go_wp2_with fail
      refine (HQ.out _ hk3).mono ?_
      rintro e w4 ⟨bo, cb, rfl, hs4, d4⟩
      have a4 := alloc_in w4 (.cells #[.string (bs t.c), .bool t.f, .int .i64 t.r, .int .i64 t.n, .string (bs t.o), .slice bo t.l.length cb] 27)
      have hu5 := Tq.new w4 t bo cb
      have ht5 := (ht3.below d4).below a4
      have hr5 := (hr3.below d4).below a4
      have hs5 := hs4.below a4
      have b5 := (b3.trans (d4.mono b3.size)).trans (a4.mono (b3.trans (d4.mono b3.size)).size)
      have hrs5 := (hrs3.below d4).below a4
      have hk5 := (hk3.below d4).below a4
      obtain ⟨z0, z1, z2, z3, z4, z5⟩ := ht5.cells
      obtain ⟨y0, y1, y2, y3, y4, y5⟩ := hu5.cells
      clear b3 d4 a4 hr3 hs4 hrs3 hk3 ht3
      go_wp2_with fail
      refine (HS.out _ _ _ _ _ hr5 hs5).mono ?_
      rintro e w6 ⟨rfl, d6⟩
      have b6 := b5.trans (d6.mono b5.size)
      have hrs6 := hrs5.below d6
      have hk6 := hk5.below d6
      clear b5 d6 hr5 hs5 hrs5 hk5 ht5 hu5 z0 z1 z2 z3 z4 z5 y0 y1 y2 y3 y4 y5
      go_wp2_with fail
      refine (HKp.out g cap HC.out.1 HC.out.2 _ hrs6 hk6).mono ?_
      rintro e w7 ⟨rfl, m, rfl⟩
      have b7 := b6.trans ((below_drewN w6 m).mono b6.size)
      clear b6 hrs6 hk6
      go_wp2_with fail
      refine (HW.out _ (HK.out _ _ HI.out b7)).mono ?_
      rintro e w8 ⟨rfl, d8⟩
      go_wp2
      go_ret
      exact ⟨rfl, b7.trans (d8.mono b7.size)⟩
end Go.Proofs.YtdgnhcbhbpffmaaGreatDoor
