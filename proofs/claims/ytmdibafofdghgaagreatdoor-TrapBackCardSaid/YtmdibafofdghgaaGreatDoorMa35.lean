/- Texts on the program and on the document, joined: TrpE, TrpS, Bok. -/
import Derived.Test.YtmdibafofdghgaaGreatDoorMa28
import Derived.Test.YtmdibafofdghgaaGreatDoorMa27
import Derived.Test.YtmdibafofdghgaaGreatDoorMa33
import Derived.Test.YtmdibafofdghgaaGreatDoorRows
import Derived.Test.YtmdibafofdghgaaGreatDoorMa01
import Derived.Test.YtmdibafofdghgaaGreatDoorMa09
import Derived.Test.YtmdibafofdghgaaGreatDoorMa31
import Derived.ProofKit
import Derived.IntWalk
import Derived.BigQuiet
import Derived.Deep.QuietTactic
import Derived.Deep.LoopGhost
import Derived.Deep.RegionHeld3
import Derived.OwnWalk
import Derived.Laws.OwnMore
import Derived.Laws.AppendOwn
/- The document's Encode, Answer of traps, walked. -/
namespace Go.Proofs.YtmdibafofdghgaaGreatDoor
open Go.ChangeShapes Go.WideShapes Go.ChangeAt Go.RowKit K P1 B5
open D8 (Bd Un lst)
open T9 (Tr bU bI msg msgB)
set_option linter.unusedVariables false

set_option maxRecDepth 100000 in
set_option maxHeartbeats 1000000 in
theorem qencode9_walk (t : Tr) (ao : Option Addr) (cap : Nat) (hx : LimT t) (hsh : ((ao = none ∧ t.l.length = 0 ∧ cap = 0) ∨ ∃ a, ao = some a)) (w : World) (hr : RdB w ao t.l) :
    Calls Tryz.prog 16 #[.agg #[.string (bs t.c), .bool t.f, .int .i64 t.r, .int .i64 t.n, .string (bs t.o), .slice ao t.l.length cap]] w fun e w' => e = .returned (.tuple #[.string (bs (teS t)), .int .i64 (teE t : Nat)]) ∧ Below w.heap.size w w' := by
  have hba := alloc_in w (.cells #[.string (bs t.c), .bool t.f, .int .i64 t.r, .int .i64 t.n, .string (bs t.o), .slice ao t.l.length cap] 27)
  have htq := Tq.new w t ao cap
  have hr1 := hr.below hba
  have hC := qcheck9_walk t ao cap hx hsh _ hr1
  have HR := Lib.hid hr1
  unfold tcE at hC
  clear hr hr1
  cases hk : t.ok
  · rw [show teS t = [] by unfold teS; rw [hk]; rfl, show teE t = 90 by unfold teE; rw [hk]; rfl]
    rw [hk] at hC
    have HC := Lib.hid hC
    clear hC hk
    go_enter Tryz.func16, Tryz.ntmps16
    go_wp2_with fail
    refine HC.out.mono ?_
    rintro e w1 ⟨rfl, b1⟩
    go_wp2
    go_ret2
    exact ⟨rfl, Below_in b1⟩
  · rw [show teS t = mgS t.c t.un by unfold teS; rw [hk]; rfl, show teE t = mgE t.c t.un by unfold teE; rw [hk]; rfl]
    rw [hk] at hC
    obtain ⟨hu, _, hc64⟩ := un_of hk
    have HC := Lib.hid hC
    have HU := Lib.hid (fun w1 (h : RdB w1 ao t.l) => qunit9_walk t ao cap hx.2.2.1 hsh w1 h)
    have hM : ∀ bo cb w1, RdB w1 bo (t.as 0).l → Calls Tryz.prog 35 #[.string (bs t.c), .agg #[.int .i64 t.tag, .int .i64 t.r, .int .i64 0, .int .i64 0, .slice bo (t.l.length + 2) cb]] w1 fun e w' => e = .returned (.tuple #[.string (bs (mgS t.c t.un)), .int .i64 (mgE t.c t.un : Nat)]) ∧ Below w1.heap.size w1 w' :=
      fun bo cb w1 h => qmessage9_walk t.c hc64 t.un hu bo cb (LimT.as hx t.tag) w1 h
    have HM := Lib.hid hM
    clear hC hM hk hu hc64 hx
    go_enter Tryz.func16, Tryz.ntmps16
    go_wp2_with fail
    refine HC.out.mono ?_
    rintro e w1 ⟨rfl, b1⟩
    have b2 := Below_in b1
    have ht1 := htq.below b1
    have HR1 := Lib.hid (HR.out.below b1)
    clear HC b1 htq hba HR
    go_wp2_with fail
    have zS := ht1.cells
    go_region_held3 (fun x => x.cell? ⟨w.heap.size, 0, none⟩ = some (.string (bs t.c)) ∧ x.cell? ⟨w.heap.size, 1, none⟩ = some (.bool t.f) ∧ x.cell? ⟨w.heap.size, 2, none⟩ = some (.int .i64 t.r) ∧ x.cell? ⟨w.heap.size, 3, none⟩ = some (.int .i64 t.n) ∧ x.cell? ⟨w.heap.size, 4, none⟩ = some (.string (bs t.o)) ∧ x.cell? ⟨w.heap.size, 5, none⟩ = some (.slice ao t.l.length cap)) (first | exact zS | exact zS1 | exact zS2)
      (first
        | (go_at_call 36; refine (HU.out _ (by exact HR1.out)).mono ?_; rintro e x1 ⟨bo, cb, rfl, hr3, j1⟩; have k1 : Below w1.heap.size w1 x1 := ⟨j1.os, j1.tape, j1.output, j1.size, j1.block⟩; have hb1 := b2.trans (k1.mono b2.size); have ht2 := ht1.below k1; have zS1 := ht2.cells)
        | (go_at_call 35; refine (HM.out _ _ _ (by exact hr3)).mono ?_; rintro e x2 ⟨rfl, j2⟩; have k2 : Below x1.heap.size x1 x2 := ⟨j2.os, j2.tape, j2.output, j2.size, j2.block⟩; have hb2 := hb1.trans (k2.mono hb1.size); have ht3 := ht2.below k2; have zS2 := ht3.cells))
    go_wp2
    go_ret2
    exact ⟨rfl, hb2⟩
set_option maxRecDepth 100000 in
set_option maxHeartbeats 1000000 in
theorem qanswer9_walk (t : Tr) (ao : Option Addr) (cap : Nat) (hx : LimT t) (hsh : ((ao = none ∧ t.l.length = 0 ∧ cap = 0) ∨ ∃ a, ao = some a)) (w : World) (hr : RdB w ao t.l) :
    Calls Tryz.prog 18 #[.agg #[.string (bs t.c), .bool t.f, .int .i64 t.r, .int .i64 t.n, .string (bs t.o), .slice ao t.l.length cap]] w fun e w' => e = .returned (.tuple #[.string (bs (taS t)), .int .i64 (taE t : Nat)]) ∧ Below w.heap.size w w' := by
  have hba := alloc_in w (.cells #[.string (bs t.c), .bool t.f, .int .i64 t.r, .int .i64 t.n, .string (bs t.o), .slice ao t.l.length cap] 27)
  have htq := Tq.new w t ao cap
  have hr1 := hr.below hba
  have hC := qcheck9_walk t ao cap hx hsh _ hr1
  have HR := Lib.hid hr1
  unfold tcE at hC
  clear hr hr1
  cases hk : t.ok
  · rw [show taS t = [] by unfold taS; rw [hk]; rfl, show taE t = 90 by unfold taE; rw [hk]; rfl]
    rw [hk] at hC
    have HC := Lib.hid hC
    clear hC hk
    go_enter Tryz.func18, Tryz.ntmps18
    go_wp2_with fail
    refine HC.out.mono ?_
    rintro e w1 ⟨rfl, b1⟩
    go_wp2
    go_ret2
    exact ⟨rfl, Below_in b1⟩
  rw [hk] at hC
  have HC := Lib.hid hC
  clear hC
  cases hf : t.f
  · rw [show taS t = [] by unfold taS; rw [hk, hf]; rfl, show taE t = 5 by unfold taE; rw [hk, hf]; rfl]
    have HF := Lib.hid hf
    have z1 : ∀ w1, Below (w.alloc (.cells #[.string (bs t.c), .bool t.f, .int .i64 t.r, .int .i64 t.n, .string (bs t.o), .slice ao t.l.length cap] 27)).heap.size (w.alloc (.cells #[.string (bs t.c), .bool t.f, .int .i64 t.r, .int .i64 t.n, .string (bs t.o), .slice ao t.l.length cap] 27)) w1 → w1.cell? ⟨w.heap.size, 1, none⟩ = some (.bool false) := fun w1 b1 => by
      have := (htq.below b1).cells.2.1
      rw [hf] at this; exact this
    rw [hf] at HC z1
    clear hk hf htq hba HR
    go_enter Tryz.func18, Tryz.ntmps18
    go_wp2_with fail
    refine HC.out.mono ?_
    rintro e w1 ⟨rfl, b1⟩
    have z1' := z1 _ b1
    clear z1
    go_wp2
    go_ret2
    exact ⟨rfl, Below_in b1⟩
  · rw [show taS t = mgS t.c (t.as 162) by unfold taS; rw [hk, hf]; rfl, show taE t = mgE t.c (t.as 162) by unfold taE; rw [hk, hf]; rfl]
    obtain ⟨hu, _, hc64⟩ := un_of hk
    have hu2 : (t.as 162).ok = true := by rw [T9.as_ok t (.inl rfl) (.inr (T9.tag_of t))]; exact hu
    have HU := Lib.hid (fun w1 (h : RdB w1 ao t.l) => qunit9_walk t ao cap hx.2.2.1 hsh w1 h)
    have hM : ∀ bo cb w1, RdB w1 bo (t.as 0).l → Calls Tryz.prog 35 #[.string (bs t.c), .agg #[.int .i64 162, .int .i64 t.r, .int .i64 0, .int .i64 0, .slice bo (t.l.length + 2) cb]] w1 fun e w' => e = .returned (.tuple #[.string (bs (mgS t.c (t.as 162))), .int .i64 (mgE t.c (t.as 162) : Nat)]) ∧ Below w1.heap.size w1 w' :=
      fun bo cb w1 h => qmessage9_walk t.c hc64 (t.as 162) hu2 bo cb (LimT.as hx 162) w1 h
    have HM := Lib.hid hM
    rw [hf] at HC HU htq HR
    clear hM hk hu hu2 hc64 hx hba
    go_enter Tryz.func18, Tryz.ntmps18
    go_wp2_with fail
    refine HC.out.mono ?_
    rintro e w1 ⟨rfl, b1⟩
    have b2 := Below_in b1
    have ht1 := htq.below b1
    have HR1 := Lib.hid (HR.out.below b1)
    obtain ⟨z0, z1, z2, z3, z4, z5⟩ := ht1.cells
    rw [hf] at z1
    have HF := Lib.hid hf
    clear HC b1 htq HR hf
    go_wp2_with fail
    refine (HU.out _ HR1.out).mono ?_
    rintro e w3 ⟨bo, cb, rfl, hr3, d3⟩
    have b3 := b2.trans (d3.mono b2.size)
    have a4 := alloc_in w3 (.cells #[.int .i64 162, .int .i64 t.r, .int .i64 0, .int .i64 0, .slice bo (t.l.length + 2) cb] 60)
    have hq4 := Uq.new 60 w3 (t.as 162) bo cb
    have hr4 := hr3.below a4
    have ht4 := (ht1.below d3).below a4
    have b4 := b3.trans (a4.mono b3.size)
    clear z0 z1 z2 z3 z4 z5 d3 a4 hr3 ht1
    obtain ⟨z0, z1, z2, z3, z4, z5⟩ := ht4.cells
    obtain ⟨y0, y1, y2, y3, y4⟩ := hq4.cells
    go_wp2_with fail
    refine (HM.out _ _ _ hr4).mono ?_
    rintro e w5 ⟨rfl, d5⟩
    go_wp2
    go_ret2
    exact ⟨rfl, b4.trans (d5.mono b4.size)⟩
end Go.Proofs.YtmdibafofdghgaaGreatDoor
/- Same of traps, the document's, walked. -/
namespace Go.Proofs.YtmdibafofdghgaaGreatDoor
open Go.ChangeShapes Go.WideShapes Go.ChangeAt Go.RowKit K P1 B5
open D8 (Bd Un lst)
open T9 (Tr bU bI)
set_option linter.unusedVariables false

def sameT (t u : Tr) : Bool := (t.c == u.c) && ((t.f == u.f) && ((t.r == u.r) && ((t.n == u.n) && ((t.o == u.o) && sameL t.l u.l))))
theorem sameT_iff (t u : Tr) : sameT t u = true ↔ t = u := by
  obtain ⟨c, f, r, n, o, l⟩ := t
  obtain ⟨c', f', r', n', o', l'⟩ := u
  unfold sameT
  simp only [Bool.and_eq_true, beq_iff_eq, sameL_iff, Tr.mk.injEq]
theorem sameT_self (t : Tr) : sameT t t = true := (sameT_iff t t).2 rfl
theorem sameT_comm (t u : Tr) : sameT t u = sameT u t := by
  rw [Bool.eq_iff_iff, sameT_iff, sameT_iff]; exact eq_comm
theorem sameT_not {t u : Tr} (h : ¬ t = u) : sameT t u = false := by
  cases hx : sameT t u
  · rfl
  · exact absurd ((sameT_iff t u).1 hx) h
/-- The two blocks of Same. -/
theorem two_traps (w : World) (t u : Tr) (ao bo : Option Addr) (ca cb : Nat) : ∃ w2, (w.alloc (.cells #[.string (bs t.c), .bool t.f, .int .i64 t.r, .int .i64 t.n, .string (bs t.o), .slice ao t.l.length ca] 27)).alloc (.cells #[.string (bs u.c), .bool u.f, .int .i64 u.r, .int .i64 u.n, .string (bs u.o), .slice bo u.l.length cb] 27) = w2 ∧
    Tq w2 w.heap.size t ao ca ∧ Tq w2 (w.heap.size + 1) u bo cb ∧ Below w.heap.size w w2 := by
  have h1 := (Tq.new w t ao ca).below (alloc_in _ (.cells #[.string (bs u.c), .bool u.f, .int .i64 u.r, .int .i64 u.n, .string (bs u.o), .slice bo u.l.length cb] 27))
  have h2 := Tq.new (w.alloc (.cells #[.string (bs t.c), .bool t.f, .int .i64 t.r, .int .i64 t.n, .string (bs t.o), .slice ao t.l.length ca] 27)) u bo cb
  rw [show (w.alloc (.cells #[.string (bs t.c), .bool t.f, .int .i64 t.r, .int .i64 t.n, .string (bs t.o), .slice ao t.l.length ca] 27)).heap.size = w.heap.size + 1 by simp] at h2
  exact ⟨_, rfl, h1, h2, ((Below.refl _ _).alloc (Nat.le_refl _) _).alloc (by simp) _⟩
set_option maxRecDepth 100000 in
set_option maxHeartbeats 2000000 in
theorem qsame9_walk (t u : Tr) (ao bo : Option Addr) (ca cb : Nat) (hl : t.l.length ≤ 140737488351232) (hl2 : u.l.length ≤ 140737488351232) (w : World) (hr : RdB w ao t.l) (hs : RdB w bo u.l) :
    Calls Tryz.prog 12 #[.agg #[.string (bs t.c), .bool t.f, .int .i64 t.r, .int .i64 t.n, .string (bs t.o), .slice ao t.l.length ca], .agg #[.string (bs u.c), .bool u.f, .int .i64 u.r, .int .i64 u.n, .string (bs u.o), .slice bo u.l.length cb]] w fun e w' => e = .returned (.bool (sameT t u)) ∧ Below w.heap.size w w' := by
  obtain ⟨w2, hw2, hu, hv, bw⟩ := two_traps w t u ao bo ca cb
  rw [← hw2] at bw
  have hS := qsamebinds_walk t.l u.l ao bo ca cb hl hl2 _ (hr.below bw) (hs.below bw)
  clear hr hs hu hv hw2 hl hl2
  obtain ⟨S, hSu⟩ : ∃ S, sameT t u = S := ⟨_, rfl⟩
  rw [hSu]
  unfold sameT at hSu
  have e : ∀ c d : Int, ¬ c = d → (c == d) = false := fun c d h => beq_eq_false_iff_ne.2 h
  have e1 : ∀ c : Int, (c == c) = true := fun c => by simp
  have es : ∀ c d : List UInt8, ¬ c = d → (c == d) = false := fun c d h => beq_eq_false_iff_ne.2 h
  have es1 : ∀ c : List UInt8, (c == c) = true := fun c => by simp
  have eb : ∀ c d : Bool, ¬ c = d → (c == d) = false := fun c d h => beq_eq_false_iff_ne.2 h
  have eb1 : ∀ c : Bool, (c == c) = true := fun c => by simp
  have et : ∀ c d : List UInt8, ¬ c = d → decide (bs c = bs d) = false := fun c d h => decide_eq_false (fun k => h (bs_inj k))
  obtain ⟨c, f, r, n, o, l⟩ := t
  obtain ⟨c', f', r', n', o', l'⟩ := u
  simp only [] at *
  generalize sameL l l' = s5 at *
  generalize l.length = n1 at *
  generalize l'.length = n2 at *
  by_cases h0 : c = c'
  · subst h0
    rw [es1, Bool.true_and] at hSu
    by_cases h1 : f = f'
    · subst h1
      rw [eb1, Bool.true_and] at hSu
      by_cases h2 : r = r'
      · subst h2
        rw [e1, Bool.true_and] at hSu
        by_cases h3 : n = n'
        · subst h3
          rw [e1, Bool.true_and] at hSu
          by_cases h4 : o = o'
          · subst h4
            rw [es1, Bool.true_and] at hSu
            subst hSu
            have HS := Lib.hid hS
            clear hS e e1 es es1 eb eb1 et
            go_enter Tryz.func12, Tryz.ntmps12
            go_wp2_with fail
            refine HS.out.mono ?_
            rintro e w1 ⟨rfl, b1⟩
            go_wp2
            go_ret
            exact ⟨rfl, Below_in (Below_in b1)⟩
          · rw [es _ _ h4, Bool.false_and] at hSu
            subst hSu
            have ht := et _ _ h4
            have h4' := es _ _ h4
            clear hS e e1 es es1 eb eb1 et h4
            go_enter Tryz.func12, Tryz.ntmps12
            go_wp2
            go_ret
            exact ⟨rfl, bw⟩
        · rw [e _ _ h3, Bool.false_and] at hSu
          subst hSu
          have h3' := e _ _ h3
          clear hS e e1 es es1 eb eb1 et h3
          go_enter Tryz.func12, Tryz.ntmps12
          go_wp2
          go_ret
          exact ⟨rfl, bw⟩
      · rw [e _ _ h2, Bool.false_and] at hSu
        subst hSu
        have h2' := e _ _ h2
        clear hS e e1 es es1 eb eb1 et h2
        go_enter Tryz.func12, Tryz.ntmps12
        go_wp2
        go_ret
        exact ⟨rfl, bw⟩
    · rw [eb _ _ h1, Bool.false_and] at hSu
      subst hSu
      have h1' := eb _ _ h1
      clear hS e e1 es es1 eb eb1 et h1
      go_enter Tryz.func12, Tryz.ntmps12
      go_wp2
      go_ret
      exact ⟨rfl, bw⟩
  · rw [es _ _ h0, Bool.false_and] at hSu
    subst hSu
    have ht := et _ _ h0
    have h0' := es _ _ h0
    clear hS e e1 es es1 eb eb1 et h0
    go_enter Tryz.func12, Tryz.ntmps12
    go_wp2
    go_ret
    exact ⟨rfl, bw⟩
end Go.Proofs.YtmdibafofdghgaaGreatDoor
/- gongbook: lists of texts: SameTexts at two that read alike, Lend, Kept; the builtin append of texts. -/
namespace Go.Proofs.YtmdibafofdghgaaGreatDoor
open Go.ChangeShapes Go.WideShapes Go.ChangeAt Go.RowKit K
set_option linter.unusedVariables false

def StRel (w : World) (n g : Nat) (v5 v6 : Value) (wr : World) : Prop :=
  ∃ i, i + g = n ∧ v5 = .bool true ∧ v6 = .int .i64 (i : Nat) ∧ ∃ m, wr = w.drewN m
set_option maxRecDepth 100000 in
theorem sametexts_walk (ls : List (List UInt8)) (hn : ls.length ≤ 1000000) (ao bo : Option Addr) (ca cb : Nat) (w : World) (ha : RdS w ao ls) (hb : RdS w bo ls) :
    Calls Tryz.prog 32 #[.slice ao ls.length ca, .slice bo ls.length cb] w fun e w' => e = .returned (.bool true) ∧ ∃ m, w' = w.drewN m := by
  have HA := Lib.hid ha
  have HB := Lib.hid hb
  clear ha hb
  go_enter Tryz.func32, Tryz.ntmps32
  go_wp2
  go_loopg [5, 6] ls.length (fun g v5 v6 wr => StRel w ls.length g v5 v6 wr)
  case atStart => exact ⟨0, by omega, by simp, rfl, 0, rfl⟩
  case round =>
    obtain ⟨i, hi, rfl, rfl, m, rfl⟩ := hrel
    cases gk with
    | zero =>
      obtain rfl : i = ls.length := by omega
      clear hi
      go_wp2
      go_ret
      exact ⟨rfl, m, rfl⟩
    | succ g =>
      have hil : i < ls.length := by omega
      obtain ⟨x, hx⟩ : ∃ x, ls.getD i [] = x := ⟨_, rfl⟩
      obtain ⟨ga, offa, rfl, _, hca⟩ := HA.out.at hil hx
      obtain ⟨gb, offb, rfl, _, hcb⟩ := HB.out.at hil hx
      have c1 : (w.drewN m).cell? ⟨ga, offa + i, none⟩ = some (.string (bs x)) := hca
      have c2 : (w.drewN m).cell? ⟨gb, offb + i, none⟩ = some (.string (bs x)) := hcb
      have HD := Lib.hid (show ∀ k, (w.drewN m).drewN k = w.drewN (m + k) from fun k => by unfold World.drewN; simp [Nat.add_assoc])
      generalize w.drewN m = w5 at c1 c2 HD ⊢
      clear hca hcb HA HB hx
      go_wp2_with fail
      go_quiet (fail)
      go_wp2
      go_roundg g
      case measure => omega
      case rel => exact ⟨i + 1, by omega, by simp, by simp, m + nq, HD.out nq⟩
theorem text_info : (Tryz.prog.info? 9).map (fun i => (i.zero, i.size, i.bytes)) = some (some (.string .empty), 1, 16) := by kernel_rfl
/-- 'append(a, b...)' of texts: a is a list that the call made. -/
theorem spreadS {o : Oper} {a : Act} {K : Act → World → Prop} {Q : Exit → Act → World → Prop} {W : World} {s x : Operand} (ho : o.op = .call { callee := .builtin .append, args := #[s, x], argTypes := #[22, 22] }) (v : Value) (hs : a.eval s = v) {B : Nat} {xs ys : List (List UInt8)} (hown : OwnS W B 9 v xs) (hBW : B ≤ W.heap.size)
    {ao : Option Addr} {ca : Nat} (hx : a.eval x = .slice ao ys.length ca) (hr : RdS W ao ys) (hsh : (ao = none ∧ ys.length = 0 ∧ ca = 0) ∨ ∃ a, ao = some a) (hn : xs.length + ys.length ≤ 10000000)
    (h : ∀ v' w', OwnS w' B 9 v' (xs ++ ys) → W.grownBy w' v.ownBlock → K (a.put o.dst v') w') : o.wp Tryz.prog a W K Q := by
  obtain ⟨i0, hi, hz0, hz1, hz2⟩ := info_of text_info
  rcases hsh with ⟨rfl, h0, rfl⟩ | ⟨ad, rfl⟩
  · have hys : ys = [] := List.length_eq_zero_iff.1 h0
    subst hys
    have hrun := run_append_owned_none (P := Tryz.prog) (w := W) B 22 o.type 9 i0 1 Tryz.underlying22 hi _ _ _ hown
    unfold Oper.wp
    simp [execOp, ho, resolve, invoke, builtin, hs, hx, hrun, Result.andThen]
    exact h _ _ (by rw [List.append_nil]; exact hown) ⟨rfl, rfl, rfl, Nat.le_refl _, fun _ _ _ => rfl⟩
  · refine wp_append_own W s x 22 ho B 9 i0 (.string .empty) 1 16 Tryz.underlying22 hi hz0 hz1 hz2 rfl (by decide) v xs.length (txts xs) hs hown ad ys.length ca (txts ys) hx (by rw [txts_len, Nat.mul_one]) hr.each (txts_one ys) (by unfold maxLen; omega) (by omega) hBW ?_
    intro v' w' hown' hg _
    exact h v' w' (OwnS.put hown') hg
theorem spreadSL {ops : Array Oper} {rest : List Oper} {o : Oper} {a : Act} {Q : Exit → Act → World → Prop} {W : World} (hgd : o.guard = none) {s x : Operand} (ho : o.op = .call { callee := .builtin .append, args := #[s, x], argTypes := #[22, 22] }) (v : Value) (hs : a.eval s = v) {B : Nat} {xs ys : List (List UInt8)} (hown : OwnS W B 9 v xs) (hBW : B ≤ W.heap.size)
    {ao : Option Addr} {ca : Nat} (hx : a.eval x = .slice ao ys.length ca) (hr : RdS W ao ys) (hsh : (ao = none ∧ ys.length = 0 ∧ ca = 0) ∨ ∃ a, ao = some a) (hn : xs.length + ys.length ≤ 10000000)
    (h : ∀ v' w', OwnS w' B 9 v' (xs ++ ys) → W.grownBy w' v.ownBlock → wpList Tryz.prog ops Q rest (a.put o.dst v') w') : wpList Tryz.prog ops Q (o :: rest) a W :=
  wpList_plain hgd fun _ hK => spreadS ho v hs hown hBW hx hr hsh hn fun v' w' h1 h2 => hK _ _ (h v' w' h1 h2)
theorem rds_one (w : World) (x : List UInt8) : RdS (w.alloc (.cells #[.string (bs x)] 9)) (some ⟨w.heap.size, 0, none⟩) [x] :=
  .inr ⟨w.heap.size, 0, rfl, by simp, fun i hi => by
    obtain rfl : i = 0 := by simpa using hi
    rw [cellRow (rowNew w _)]; rfl⟩
def behindB : List UInt8 := [98, 101, 104, 105, 110, 100]
set_option maxRecDepth 100000 in
set_option maxHeartbeats 1000000 in
theorem lend_walk (ls : List (List UInt8)) (hn : ls.length ≤ 1000000) (ao : Option Addr) (ca : Nat) (hsh : (ao = none ∧ ls.length = 0 ∧ ca = 0) ∨ ∃ a, ao = some a) (w : World) (hr : RdS w ao ls) :
    Calls Tryz.prog 9 #[.slice ao ls.length ca] w fun e w' => ∃ g cap, e = .returned (.slice (some ⟨g, 0, none⟩) ls.length cap) ∧ ls.length + 1 ≤ cap ∧ cap ≤ 9223372036854775807 ∧ RdS w' (some ⟨g, 0, none⟩) (ls ++ [behindB]) ∧ Below w.heap.size w w' := by
  go_enter Tryz.func9, Tryz.ntmps9
  go_wp2_with (at_builtin; refine spreadSL rfl rfl _ rfl (OwnS.nil w w.heap.size 9) (Nat.le_refl _) rfl hr hsh ?c1 ?_)
  case c1 => simp; omega
  intro v1 w1 ho1 hg1
  have b1 := (Below.refl w.heap.size w).grown hg1 (Nat.le_refl _) (fun k hk => by simp [Value.ownBlock] at hk)
  clear hg1
  obtain ⟨a1, c1, rfl, hle1, hm1, _, _⟩ := ho1.form
  have hs1 := b1.size
  have a2 := (Below.refl w1.heap.size w1).alloc (Nat.le_refl _) (.cells #[.string (bs behindB)] 9)
  have ho2 := ho1.below a2
  have hr2 := rds_one w1 behindB
  have b2 := b1.trans (a2.mono hs1)
  have hs2 : w.heap.size ≤ (w1.alloc (.cells #[.string (bs behindB)] 9)).heap.size := b2.size
  unfold behindB at *
  clear ho1 b1 a2
  go_wp2_with (at_builtin; refine spreadSL rfl rfl _ rfl ho2 hs2 rfl hr2 (.inr ⟨_, rfl⟩) ?d1 ?_)
  case d1 => simp; omega
  intro v3 w3 ho3 hg3
  have b3 := b2.grown hg3 hs2 (fun k hk => (World.ownsRow.lt ho2 k hk).1)
  clear hg3 ho2 hr2 b2
  obtain ⟨a3, c3, rfl, hle3, hm3, hr3, hsh3⟩ := ho3.form
  rw [List.length_append, List.length_singleton] at hle3 hsh3 ⊢
  rcases hsh3 with ⟨_, h0, _⟩ | ⟨g, rfl, _⟩
  · omega
  unfold maxLen at hm3
  have HR := Lib.hid hr3
  clear ho3 hr3
  have y1 : ((ls.length : Nat) : Int) ≤ ((c3 : Nat) : Int) := by omega
  have y2 : (0 : Int) ≤ ((ls.length : Nat) : Int) := by omega
  go_wp2
  go_ret
  exact ⟨g, c3, rfl, hle3, hm3, HR.out, b3⟩
set_option maxRecDepth 100000 in
set_option maxHeartbeats 1000000 in
theorem kept_walk (ls : List (List UInt8)) (hn : ls.length ≤ 1000000) (g cap : Nat) (hc : ls.length + 1 ≤ cap) (hm : cap ≤ 9223372036854775807) (bo : Option Addr) (cb : Nat) (w : World) (hr : RdS w (some ⟨g, 0, none⟩) (ls ++ [behindB])) (hs : RdS w bo ls) :
    Calls Tryz.prog 13 #[.slice (some ⟨g, 0, none⟩) ls.length cap, .slice bo ls.length cb] w fun e w' => e = .returned (.bool true) ∧ ∃ m, w' = w.drewN m := by
  have HS := Lib.hid (sametexts_walk ls hn (some ⟨g, 0, none⟩) bo cap cb w hr.pre hs)
  have c1 : w.cell? ⟨g, ls.length, none⟩ = some (.string (bs [98, 101, 104, 105, 110, 100])) := hr.last
  have y1 : IntKind.i64.wrap (((ls.length : Nat) : Int) + 1) = ((ls.length : Nat) : Int) + 1 := IntWalk.i64_in _ (by omega)
  have y2 : (0 : Int) ≤ ((ls.length : Nat) : Int) + 1 := by omega
  have y3 : (((ls.length : Nat) : Int) + 1).toNat = ls.length + 1 := by omega
  have y4 : ((ls.length : Nat) : Int) + 1 ≤ ((cap : Nat) : Int) := by omega
  have y5 : (((ls.length : Nat) : Int) < ((ls.length + 1 : Nat) : Int)) = True := eq_true (by omega)
  have y6 : ls.length < ls.length + 1 := by omega
  clear hr hs hc
  go_enter Tryz.func13, Tryz.ntmps13
  go_wp2_with fail
  refine HS.out.mono ?_
  rintro e w1 ⟨rfl, m, rfl⟩
  have c2 : (w.drewN m).cell? ⟨g, ls.length, none⟩ = some (.string (bs [98, 101, 104, 105, 110, 100])) := c1
  go_wp2
  go_ret
  exact ⟨rfl, m, rfl⟩
end Go.Proofs.YtmdibafofdghgaaGreatDoor
