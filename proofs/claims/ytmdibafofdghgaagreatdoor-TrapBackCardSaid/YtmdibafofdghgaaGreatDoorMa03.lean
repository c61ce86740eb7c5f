/- Texts on the program and on the document, joined: BerN, Pad, BerR. -/
import Derived.Test.YtmdibafofdghgaaGreatDoorMa02
import Derived.Test.YtmdibafofdghgaaGreatDoorRows
import Derived.Test.YtmdibafofdghgaaGreatDoorMa01
import Derived.ProofKit
import Derived.IntWalk
import Derived.Deep.LoopGhost
import Derived.Deep.RegionHeld3
/- Whole elements, and the bodies of numbers: plain mathematics, of no program. -/
namespace Go.Proofs.YtmdibafofdghgaaGreatDoor
open K P1
namespace B5

/-! ### One element, whole -/
def hd1 (l : List UInt8) : Except Nat Fo :=
  if isMade (nxT l) then
    match prs 2 (nxB l) with
    | .error e => .error e
    | .ok cs => .ok (.node (nxT l) cs .nil)
  else .ok (.leaf (nxT l) (nxB l) .nil)
/-- What is found first is told: what stands behind the element, last. -/
def wh (l : List UInt8) : Except Nat Fo :=
  if nxOk l = false then .error 50
  else match hd1 l with
    | .error e => .error e
    | .ok f => if nxR l = [] then .ok f else .error 50
def whE (l : List UInt8) : Nat := match wh l with
  | .ok _ => 0
  | .error e => e
def whD (l : List UInt8) : Nat := match wh l with
  | .ok f => f.dep
  | .error _ => 0
def whC (l : List UInt8) : List UInt8 := match wh l with
  | .ok f => f.enc
  | .error _ => []
theorem wh_ok {l : List UInt8} {f : Fo} (h : wh l = .ok f) : whE l = 0 ∧ whD l = f.dep ∧ whC l = f.enc := by
  unfold whE whD whC; rw [h]; exact ⟨rfl, rfl, rfl⟩
theorem wh_bad {l : List UInt8} {e : Nat} (h : wh l = .error e) : whE l = e ∧ whD l = 0 ∧ whC l = [] := by
  unfold whE whD whC; rw [h]; exact ⟨rfl, rfl, rfl⟩
theorem nxOk_ne {l : List UInt8} (h : nxOk l = true) : l ≠ [] := ((nxOk_iff l).1 h).1
theorem hd1_prs {l : List UInt8} (h : nxOk l = true) (hr : nxR l = []) : prs 1 l = hd1 l := by
  rw [prs_step (nxOk_ne h), if_neg (by rw [h]; simp), if_neg (by omega), hr, prs_nil]
  unfold hd1
  by_cases hm : isMade (nxT l) = true
  · rw [if_pos hm, if_pos hm]
    cases prs (1 + 1) (nxB l) <;> rfl
  · rw [if_neg hm, if_neg hm]
theorem wh_eq {l : List UInt8} (h : nxOk l = true) (hr : nxR l = []) : wh l = prs 1 l := by
  unfold wh
  rw [if_neg (by rw [h]; simp), hd1_prs h hr]
  cases hd1 l with
  | error e => rfl
  | ok f => show (if nxR l = [] then _ else _) = _; rw [if_pos hr]
theorem wh_inv {l : List UInt8} {f : Fo} (h : wh l = .ok f) : nxOk l = true ∧ nxR l = [] ∧ prs 1 l = .ok f := by
  have h0 := h
  unfold wh at h
  by_cases hx : nxOk l = true
  · rw [if_neg (by rw [hx]; simp)] at h
    cases hd : hd1 l with
    | error e => rw [hd] at h; cases h
    | ok g =>
      rw [hd] at h
      by_cases hr : nxR l = []
      · exact ⟨hx, hr, by rw [← wh_eq hx hr]; exact h0⟩
      · simp [hr] at h
  · rw [Bool.not_eq_true] at hx
    rw [if_pos hx] at h; cases h
/-- One element alone. -/
theorem one_of {l : List UInt8} {f : Fo} (h : nxOk l = true) (hr : nxR l = []) (a : Nat) (hf : prs a l = .ok f) : (∃ t b, f = .leaf t b .nil) ∨ ∃ t cs, f = .node t cs .nil := by
  rw [prs_step (nxOk_ne h), if_neg (by rw [h]; simp), hr, prs_nil] at hf
  by_cases ha : 32 < a
  · rw [if_pos ha] at hf; cases hf
  · rw [if_neg ha] at hf
    by_cases hm : isMade (nxT l) = true
    · rw [if_pos hm] at hf
      cases h1 : prs (a + 1) (nxB l) with
      | error e => rw [h1] at hf; cases hf
      | ok cs => rw [h1] at hf; cases hf; exact .inr ⟨_, _, rfl⟩
    · rw [if_neg hm] at hf; cases hf; exact .inl ⟨_, _, rfl⟩
theorem wh_one {f : Fo} (hw : f.WF) (h1 : (∃ t b, f = .leaf t b .nil) ∨ ∃ t cs, f = .node t cs .nil) : wh f.enc = if f.dep ≤ 32 then .ok f else .error 51 := by
  have hx : nxOk f.enc = true ∧ nxR f.enc = [] ∧ 1 ≤ f.dep := by
    rcases h1 with ⟨t, b, rfl⟩ | ⟨t, cs, rfl⟩
    · obtain ⟨a1, a2, a3, a4, a5⟩ := hw
      obtain ⟨x1, x2, x3, x4⟩ := nx_put t b [] a1 a2 a4
      exact ⟨x1, x4, by rw [Fo.dep_leaf]; omega⟩
    · obtain ⟨a1, a2, a3, a4, a5, a6⟩ := hw
      obtain ⟨x1, x2, x3, x4⟩ := nx_put t cs.enc [] a1 a2 a4
      exact ⟨x1, x4, by rw [Fo.dep_node]; omega⟩
  obtain ⟨x1, x2, x3⟩ := hx
  rw [wh_eq x1 x2, prs_enc f 1 hw]
  by_cases hd : f.dep ≤ 32
  · rw [if_pos hd, if_pos (by omega)]
  · rw [if_neg hd, if_neg (by omega)]
/-- The shortest form of any element: it is its own, as deep, no longer. -/
theorem wh_again {l : List UInt8} {f : Fo} (h : wh l = .ok f) : wh f.enc = .ok f ∧ f.enc.length ≤ l.length ∧ 1 ≤ f.dep ∧ f.dep ≤ 32 := by
  obtain ⟨hx, hr, h⟩ := wh_inv h
  obtain ⟨w1, w2, w3⟩ := prs_of l.length 1 l f (Nat.le_refl _) h
  have h1 := one_of hx hr 1 h
  have hd : 1 ≤ f.dep := by
    rcases h1 with ⟨t, b, rfl⟩ | ⟨t, cs, rfl⟩
    · rw [Fo.dep_leaf]; omega
    · rw [Fo.dep_node]; omega
  rw [wh_one w1 h1, if_pos (by omega)]
  exact ⟨rfl, w2, hd, by omega⟩
/-- Elements within one another. -/
def tower (b : List UInt8) : Nat → Fo
  | 0 => .leaf 4 b .nil
  | n + 1 => .node 48 (tower b n) .nil
theorem tower_dep (b : List UInt8) : ∀ n, (tower b n).dep = n + 1
  | 0 => rfl
  | n + 1 => by
    show (Fo.node 48 (tower b n) .nil).dep = _
    rw [Fo.dep_node, tower_dep b n]; simp [Fo.dep]
theorem tower_enc (b : List UInt8) (n : Nat) : (tower b (n + 1)).enc = put 48 (tower b n).enc := by
  show put 48 (tower b n).enc ++ Fo.nil.enc = _
  simp [Fo.enc]
theorem tower_len (b : List UInt8) (n : Nat) : (tower b n).enc.length ≤ b.length + 6 * (n + 1) := by
  have hs : ∀ m, (short m).length ≤ 5 := by
    intro m; rw [short_len]; have := kb_pos m
    by_cases h : m < 128
    · rw [if_pos h]; omega
    · rw [if_neg h]; omega
  induction n with
  | zero =>
    show (put 4 b ++ []).length ≤ _
    rw [List.append_nil, put_len]; have := hs b.length; omega
  | succ n ih =>
    rw [tower_enc, put_len]; have := hs (tower b n).enc.length; omega
theorem tower_wf (b : List UInt8) (hb : b.length < 4294000000) : ∀ n, n < 100000 → (tower b n).WF
  | 0, _ => ⟨rfl, by omega, rfl, by omega, trivial⟩
  | n + 1, h => by
    have := tower_len b n
    exact ⟨rfl, by omega, rfl, by omega, tower_wf b hb n (by omega), trivial⟩
theorem tower_one (b : List UInt8) (n : Nat) : (∃ t b', tower b n = .leaf t b' .nil) ∨ ∃ t cs, tower b n = .node t cs .nil := by
  cases n with
  | zero => exact .inl ⟨_, _, rfl⟩
  | succ n => exact .inr ⟨_, _, rfl⟩

/-! ### The bodies of numbers -/
def same9 (l : List UInt8) : Bool := (byt l 0 == 0 && decide (byt l 1 < 128)) || (byt l 0 == 255 && decide (128 ≤ byt l 1))
def nv (l : List UInt8) : Int := if byt l 0 < 128 then (num l : Int) else (num l : Int) - ((256 ^ l.length : Nat) : Int)
def nOk (l : List UInt8) : Bool := decide (1 ≤ l.length) && (decide (l.length ≤ 8) && !(decide (1 < l.length) && same9 l))
def strip : Nat → List UInt8 → List UInt8
  | 0, l => l
  | k + 1, l => if same9 l then strip k (l.drop 1) else l
theorem nv_drop {l : List UInt8} (h2 : 2 ≤ l.length) (h : same9 l = true) : nv (l.drop 1) = nv l := by
  match l, h2 with
  | a :: b :: r, _ =>
    have b0 : byt (a :: b :: r) 0 = a.toNat := by simp [byt]
    have b1 : byt (a :: b :: r) 1 = b.toNat := by simp [byt]
    have c0 : byt (b :: r) 0 = b.toNat := by simp [byt]
    unfold same9 at h
    rw [b0, b1] at h
    simp only [Bool.or_eq_true, Bool.and_eq_true, beq_iff_eq, decide_eq_true_eq] at h
    show nv (b :: r) = _
    unfold nv
    rw [b0, c0, num_cons a (b :: r)]
    have hl : (a :: b :: r).length = (b :: r).length + 1 := rfl
    rw [hl, Nat.pow_succ]
    generalize num (b :: r) = N
    generalize 256 ^ (b :: r).length = M
    rcases h with ⟨ha, hb⟩ | ⟨ha, hb⟩
    · rw [if_pos hb, if_pos (by omega), ha]; simp
    · rw [if_neg (by omega), if_neg (by omega), ha]
      omega
theorem strip_facts : ∀ (k : Nat) (l : List UInt8), l.length = k + 1 → nv (strip k l) = nv l ∧ 1 ≤ (strip k l).length ∧ (strip k l).length ≤ k + 1 ∧ ((strip k l).length = 1 ∨ same9 (strip k l) = false)
  | 0, l, h => ⟨rfl, by show 1 ≤ l.length; omega, by show l.length ≤ 0 + 1; omega, .inl h⟩
  | k + 1, l, h => by
    unfold strip
    by_cases hs : same9 l = true
    · rw [if_pos hs]
      obtain ⟨h1, h2, h3, h4⟩ := strip_facts k (l.drop 1) (by rw [List.length_drop]; omega)
      exact ⟨by rw [h1, nv_drop (by omega) hs], h2, by omega, h4⟩
    · rw [if_neg hs]
      exact ⟨rfl, by omega, by omega, .inr (by simpa using hs)⟩
/-- A number's body. -/
def pn (n : Int) : List UInt8 := strip 7 (pad 8 (n % 18446744073709551616).toNat)
theorem byt_pad8 (m : Nat) : byt (pad 8 m) 0 = m / 72057594037927936 % 256 := by
  show byt (b8 (m / 256 ^ 7 % 256) :: pad 7 m) 0 = _
  rw [byt_cons0, b8_toNat _ (by omega)]
theorem nv_pad8 (m : Nat) (h : m < 18446744073709551616) : nv (pad 8 m) = if m < 9223372036854775808 then (m : Int) else (m : Int) - 18446744073709551616 := by
  unfold nv
  rw [byt_pad8, num_pad, pad_length, Nat.mod_eq_of_lt (by omega : m < 256 ^ 8)]
  by_cases h1 : m < 9223372036854775808
  · rw [if_pos h1, if_pos (by omega)]
  · rw [if_neg h1, if_neg (by omega)]; rfl
theorem pn_ok (n : Int) (h0 : -9223372036854775808 ≤ n) (h1 : n ≤ 9223372036854775807) : nOk (pn n) = true ∧ nv (pn n) = n ∧ 1 ≤ (pn n).length ∧ (pn n).length ≤ 8 := by
  obtain ⟨g1, g2, g3, g4⟩ := strip_facts 7 (pad 8 (n % 18446744073709551616).toNat) (by rw [pad_length])
  have hm : (n % 18446744073709551616).toNat < 18446744073709551616 := by omega
  refine ⟨?_, ?_, g2, g3⟩
  · unfold nOk
    have e : pn n = strip 7 (pad 8 (n % 18446744073709551616).toNat) := rfl
    rw [e, decide_eq_true g2, decide_eq_true g3]
    rcases g4 with g4 | g4
    · rw [g4]; rfl
    · rw [g4]; simp
  · show nv (strip 7 (pad 8 (n % 18446744073709551616).toNat)) = n
    rw [g1, nv_pad8 _ hm]
    by_cases hc : (n % 18446744073709551616).toNat < 9223372036854775808
    · rw [if_pos hc]; omega
    · rw [if_neg hc]; omega
/-- Unsigned ones. -/
def un (m : Nat) : List UInt8 := if 9223372036854775808 ≤ m then 0 :: pad 8 m else pn m
def uOk (l : List UInt8) : Bool := (l.length == 9 && (byt l 0 == 0 && decide (128 ≤ byt l 1))) || (nOk l && decide (0 ≤ nv l))
def uv (l : List UInt8) : Int := if l.length = 9 then (num (l.drop 1) : Int) else nv l
theorem un_ok (m : Nat) (h : m < 18446744073709551616) : uOk (un m) = true ∧ uv (un m) = (m : Int) := by
  unfold un
  by_cases hc : 9223372036854775808 ≤ m
  · rw [if_pos hc]
    have hl : (0 :: pad 8 m).length = 9 := by rw [List.length_cons, pad_length]
    have b0 : byt (0 :: pad 8 m) 0 = 0 := rfl
    have b1 : byt (0 :: pad 8 m) 1 = m / 72057594037927936 % 256 := by rw [← byt_pad8]; simp [byt]
    refine ⟨?_, ?_⟩
    · unfold uOk
      rw [hl, b0, b1, decide_eq_true (by omega : 128 ≤ m / 72057594037927936 % 256)]
      rfl
    · unfold uv
      rw [if_pos hl]
      show ((num (pad 8 m) : Nat) : Int) = _
      rw [num_pad, Nat.mod_eq_of_lt (by omega : m < 256 ^ 8)]
  · rw [if_neg hc]
    obtain ⟨g1, g2, g3, g4⟩ := pn_ok (m : Int) (by omega) (by omega)
    refine ⟨?_, ?_⟩
    · unfold uOk; rw [g1, g2, decide_eq_true (by omega : (0 : Int) ≤ (m : Int))]; simp
    · unfold uv; rw [if_neg (by omega), g2]
end B5
end Go.Proofs.YtmdibafofdghgaaGreatDoor
/- gongref01.Padded by itself. -/
namespace Go.Proofs.YtmdibafofdghgaaGreatDoor
open Go.ChangeShapes Go.WideShapes Go.ChangeAt Go.RowKit P1 K
set_option linter.unusedVariables false

def PRel (w : World) (n k : Nat) (vn vs vi : Value) (wr : World) : Prop :=
  ∃ (i : Nat), i ≤ k ∧ vn = .int .i64 ((n / 256 ^ i : Nat) : Int) ∧ vs = .string (bs (pad i n)) ∧ vi = .int .i64 i ∧ Below w.heap.size w wr

set_option maxRecDepth 100000 in
theorem padded_walk (n k : Nat) (h1 : n ≤ 9223372036854775807) (hk : k ≤ 8) (w : World) :
    Calls Tryz.prog 105 #[.int .i64 n, .int .i64 k] w fun e w' => e = .returned (.string (bs (pad k n))) ∧ Below w.heap.size w w' := by
  have hc1 := run_conv_one (P := Tryz.prog) 124 5 9 Tryz.underlying124 Tryz.underlying5 Tryz.underlying9
  go_enter Tryz.func105, Tryz.ntmps105
  go_wp2
  go_loopw [0, 5, 6] (fun vn vs vi wr => PRel w n k vn vs vi wr) (fun vn vs vi wr => k - (intOf vi).toNat)
  case atStart => exact ⟨0, Nat.zero_le _, by simp, rfl, rfl, Below.refl _ _⟩
  case round =>
    obtain ⟨i, hi, rfl, rfl, rfl, hb⟩ := hrel
    have hle : n / 256 ^ i ≤ 9223372036854775807 := Nat.le_trans (Nat.div_le_self _ _) h1
    have hl := pad_length i n
    have hpl : (pad i n).length ≤ 8 := by omega
    have hst : n / 256 ^ i / 256 = n / 256 ^ (i + 1) := by rw [Nat.div_div_eq_div_mul, Nat.pow_succ]
    have hpd : pad (i + 1) n = b8 (n / 256 ^ i % 256) :: pad i n := rfl
    generalize hq : n / 256 ^ i = q at *
    have Hst := Lib.hid hst; have Hpd := Lib.hid hpd; have Hq := Lib.hid hq; clear hst hpd hl hq
    by_cases h0 : i < k
    · go_wp2
      go_roundw
      case measure => simp [intOf]; omega
      case rel =>
        refine ⟨i + 1, by omega, ?_, ?_, by simp, hb.alloc (by have := hb.size; omega) _⟩
        · rw [← Hst.out]; simp
        · rw [Hpd.out]
    · obtain rfl : i = k := by omega
      go_wp2
      go_ret
      exact ⟨rfl, hb⟩

end Go.Proofs.YtmdibafofdghgaaGreatDoor
/- The document's own writing of elements and numbers, walked. -/
namespace Go.Proofs.YtmdibafofdghgaaGreatDoor
open Go.ChangeShapes Go.WideShapes Go.ChangeAt Go.RowKit K P1 B5
set_option linter.unusedVariables false

theorem Below_ofDrewA {B : Nat} {a b : World} {n : Nat} (h : Below B (a.drewN n) b) : Below B a b := ⟨h.os, h.tape, h.output, h.size, h.block⟩
theorem Below_ofDrewB {B : Nat} {a b : World} (h : Below B a.drew b) : Below B a b := ⟨h.os, h.tape, h.output, h.size, h.block⟩
theorem run_conv_drew {P : Program} (src e dst : TypeId) (hs : P.underlying src = some (.slice e)) (he : P.underlying e = some (.int .u8)) (hd : P.underlying dst = some .string) :
    ∀ (w : World) (x : Int), (convert src dst (.slice (some ⟨w.heap.size, 0, none⟩) 1 1)).run P (w.alloc (.cells #[.int .u8 x] e)).drew = .ok (.string (bs [b8 x.toNat])) (w.alloc (.cells #[.int .u8 x] e)).drew := by
  intro w x
  rw [run_convert_bytes_arg (P := P) (w.alloc (.cells #[.int .u8 x] e)).drew src e hs he w.heap.size 0 1 1 [x] rfl _ dst hd]
  · rfl
  · intro i hi
    obtain rfl : i = 0 := by omega
    show (w.alloc (.cells #[.int .u8 x] e)).cell? _ = _
    rw [cellRow (rowNew w _)]
    rfl
theorem run_conv_kept {P : Program} {src e dst : TypeId} (hs : P.underlying src = some (.slice e)) (he : P.underlying e = some (.int .u8)) (hd : P.underlying dst = some .string)
    {w x1 : World} {x : Int} (k : Below (w.alloc (.cells #[.int .u8 x] e)).drew.heap.size (w.alloc (.cells #[.int .u8 x] e)).drew x1) :
    (convert src dst (.slice (some ⟨w.heap.size, 0, none⟩) 1 1)).run P x1 = .ok (.string (bs [b8 x.toNat])) x1 := by
  rw [run_convert_bytes_arg (P := P) x1 src e hs he w.heap.size 0 1 1 [x] rfl _ dst hd]
  · rfl
  · intro i hi
    obtain rfl : i = 0 := by omega
    have hb : (w.alloc (.cells #[.int .u8 x] e)).drew.heap[w.heap.size]? = some (.cells #[.int .u8 x] e (0, 0)) := rowNew w _
    rw [cellRow ((k.block _ (lt_of_block hb)).trans hb)]
    rfl
/-- Whatever was made ahead of the call, and behind it. -/
theorem Below_res {w x1 : World} {o : Obj} (k : Below (w.alloc o).drew.heap.size (w.alloc o).drew x1) : Below w.heap.size w x1 :=
  ((Below.refl w.heap.size w).alloc (Nat.le_refl _) o).trans (Below.mono (Below_ofDrewB k) (by show w.heap.size ≤ (w.alloc o).heap.size; simp))
theorem Below_res2 {w x1 : World} {o : Obj} (k : Below w.drew.heap.size w.drew x1) : Below w.heap.size w (x1.alloc o) :=
  (Below_ofDrewB k).alloc k.size o
/-- Whether a number is a tag. -/
def isTi (t : Int) : Bool := decide (0 ≤ t) && (decide (t ≤ 255) && isTag t.toNat)
theorem qistag_walk (t : Int) (w : World) :
    Calls Tryz.prog 71 #[.int .i64 t] w fun e w' => e = .returned (.bool (isTi t)) ∧ w = w' := by
  by_cases h0 : 0 ≤ t
  · by_cases h1 : t ≤ 255
    · have e : isTi t = (t % 32 != 31) := by
        unfold isTi isTag
        rw [decide_eq_true h0, decide_eq_true h1, Bool.true_and, Bool.true_and, Bool.eq_iff_iff, bne_iff_ne, bne_iff_ne]; omega
      rw [e]; clear e
      go_enter Tryz.func71, Tryz.ntmps71
      go_wp2
      all_goals (go_ret; exact ⟨rfl, rfl⟩)
    · have e : isTi t = false := by unfold isTi; rw [decide_eq_false h1, Bool.false_and, Bool.and_false]
      rw [e]
      have h1' : 256 ≤ t := by omega
      clear h1 e
      go_enter Tryz.func71, Tryz.ntmps71
      go_wp2
      go_ret
      exact ⟨rfl, rfl⟩
  · have e : isTi t = false := by unfold isTi; rw [decide_eq_false h0, Bool.false_and]
    rw [e]
    have h0' : t ≤ -1 := by omega
    clear h0 e
    go_enter Tryz.func71, Tryz.ntmps71
    go_wp2
    go_ret
    exact ⟨rfl, rfl⟩
theorem kb_step {n k : Nat} (hn : n < 4294967296) (h1 : 1 ≤ k) (h4 : k ≤ 4) : (k < kb n → 0 < n / 256 ^ k) ∧ (kb n ≤ k → n / 256 ^ k = 0) := by
  constructor
  · intro h
    rcases Nat.eq_zero_or_pos (n / 256 ^ k) with h0 | h0
    · have := kb_least n k (Nat.lt_of_div_eq_zero (Nat.pow_pos (by omega)) h0) h1 h4
      omega
    · exact h0
  · intro h
    have hf := kb_fits n hn
    have hm : 256 ^ kb n ≤ 256 ^ k := Nat.pow_le_pow_right (by omega) h
    exact Nat.div_eq_of_lt (by omega)
def QsRel (n : Nat) (w : World) (g : Nat) (v3 : Value) (wr : World) : Prop := ∃ k, k + g = kb n ∧ 1 ≤ k ∧ v3 = .int .i64 (k : Nat) ∧ wr = w
set_option maxRecDepth 100000 in
theorem qshort_walk (n : Nat) (hn : n < 4294967296) (w : World) :
    Calls Tryz.prog 81 #[.int .i64 n] w fun e w' => e = .returned (.string (bs (short n))) ∧ Below w.heap.size w w' := by
  by_cases h : n < 128
  · have e : short n = [b8 n] := by unfold short; rw [if_pos h]
    rw [e]
    have hcv := run_conv_one (P := Tryz.prog) 124 5 9 Tryz.underlying124 Tryz.underlying5 Tryz.underlying9
    have h' : (n : Int) < 128 := by omega
    clear hn e
    go_enter Tryz.func81, Tryz.ntmps81
    go_wp2
    go_ret
    exact ⟨rfl, (Below.refl _ _).alloc (Nat.le_refl _) _⟩
  · have e : short n = [b8 (128 + kb n)] ++ pad (kb n) n := by unfold short; rw [if_neg h]; rfl
    have HE := Lib.hid e
    have hkb := kb_pos n
    have HST := Lib.hid (fun k h1 h4 => @kb_step n k hn h1 h4)
    have HP := Lib.hid (fun w1 => padded_walk n (kb n) (by omega) (by omega) w1)
    have hpl := pad_length (kb n) n
    have hpl4 : (pad (kb n) n).length ≤ 4 := by omega
    have hcv := run_conv_one (P := Tryz.prog) 124 5 9 Tryz.underlying124 Tryz.underlying5 Tryz.underlying9
    have hcd := run_conv_drew (P := Tryz.prog) 124 5 9 Tryz.underlying124 Tryz.underlying5 Tryz.underlying9
    generalize pad (kb n) n = PD at *
    obtain ⟨z, hz⟩ : ∃ z : Int, (n : Int) = z := ⟨_, rfl⟩
    have hz0 : 128 ≤ z := by omega
    have hz1 : z < 4294967296 := by omega
    have HZ := Lib.hid hz
    clear e hpl h hn
    rw [hz]
    rw [hz] at HP
    clear hz
    go_enter Tryz.func81, Tryz.ntmps81
    go_wp2
    go_loopg [3] (kb n - 1) (fun g v3 wr => QsRel n w g v3 wr)
    case atStart => exact ⟨1, by omega, by omega, rfl, rfl⟩
    case round =>
      obtain ⟨k, hkg, hk1, rfl, rfl⟩ := hrel
      obtain ⟨s1, s2⟩ := HST.out k hk1 (by omega)
      have hpw : (2 : Int) ^ (8 * k) = ((256 ^ k : Nat) : Int) := by
        rw [Int.pow_mul]; simp
      have hqz : z / 2 ^ (8 * k) = ((n / 256 ^ k : Nat) : Int) := by rw [hpw, ← HZ.out]; simp
      cases gk with
      | zero =>
        have hk4 : k ≤ 4 := by omega
        have hq1 : z / 2 ^ (8 * k) ≤ 0 := by rw [hqz, s2 (by omega)]; simp
        obtain rfl : k = kb n := by omega
        have e1 : IntKind.i64.wrap (128 + ((kb n : Nat) : Int)) = 128 + ((kb n : Nat) : Int) := IntWalk.i64_in _ (by omega)
        have e2 : IntKind.u8.wrap (128 + ((kb n : Nat) : Int)) = 128 + ((kb n : Nat) : Int) := IntWalk.u8_in _ (by omega)
        have e3 : (128 + ((kb n : Nat) : Int)).toNat = 128 + kb n := by omega
        have hcat : (9223372036854775807 < 1 + PD.length) = False := eq_false (by omega)
        clear hqz hpw s1 s2 hkg hk1
        go_wp2_with fail
        go_region_with (first | (go_at_call 105; refine (HP.out _).mono ?_; rintro e x1 ⟨rfl, k1⟩; try (have z1 := run_conv_kept (P := Tryz.prog) (src := 124) (dst := 9) Tryz.underlying124 Tryz.underlying5 Tryz.underlying9 k1)))
        all_goals
          go_wp2
          go_ret
          refine ⟨?_, by first | exact Below_res k1 | exact Below_res2 k1⟩
          rw [HE.out]
          rfl
      | succ g =>
        have hq1 : 0 < z / 2 ^ (8 * k) := by rw [hqz]; have := s1 (by omega); omega
        clear hqz hpw s1 s2
        go_wp2
        go_roundg g
        case measure => omega
        case rel => exact ⟨k + 1, by omega, by omega, by simp, rfl⟩
set_option maxRecDepth 100000 in
theorem qput_walk (t : Nat) (ht : t < 256) (b : List UInt8) (hb : b.length < 4294967296) (w : World) :
    Calls Tryz.prog 55 #[.int .i64 t, .string (bs b)] w fun e w' => e = .returned (.string (bs (put t b))) ∧ Below w.heap.size w w' := by
  have HE := Lib.hid (show put t b = [b8 t] ++ short b.length ++ b from rfl)
  have HS := Lib.hid (fun w1 => qshort_walk b.length hb w1)
  have hsl : (short b.length).length ≤ 5 := by
    rw [short_len]; have := kb_pos b.length
    by_cases h : b.length < 128
    · rw [if_pos h]; omega
    · rw [if_neg h]; omega
  have hcv := run_conv_one (P := Tryz.prog) 124 5 9 Tryz.underlying124 Tryz.underlying5 Tryz.underlying9
  have hcd := run_conv_drew (P := Tryz.prog) 124 5 9 Tryz.underlying124 Tryz.underlying5 Tryz.underlying9
  have e2 : IntKind.u8.wrap (t : Int) = (t : Int) := IntWalk.u8_in _ (by omega)
  have hbl : b.length ≤ 4294967296 := by omega
  generalize short b.length = SH at *
  clear hb
  go_enter Tryz.func55, Tryz.ntmps55
  go_wp2_with fail
  go_region_with (first | (go_at_call 81; refine (HS.out _).mono ?_; rintro e x1 ⟨rfl, k1⟩; try (have z1 := run_conv_kept (P := Tryz.prog) (src := 124) (dst := 9) Tryz.underlying124 Tryz.underlying5 Tryz.underlying9 k1)))
  all_goals
    go_wp2
    go_ret
    refine ⟨?_, by first | exact Below_res k1 | exact Below_res2 k1⟩
    rw [HE.out]
    rfl
def wrT (t : Int) (b : List UInt8) : List UInt8 := if isTi t then (if 16777216 < b.length then [] else put t.toNat b) else []
def wrE (t : Int) (b : List UInt8) : Nat := if isTi t then (if 16777216 < b.length then 2 else 0) else 1
theorem isTi_nat {t : Int} (h : isTi t = true) : ∃ k : Nat, t = (k : Int) ∧ k < 256 ∧ isTag k = true := by
  unfold isTi at h
  simp only [Bool.and_eq_true, decide_eq_true_eq] at h
  exact ⟨t.toNat, by omega, by omega, h.2.2⟩
end Go.Proofs.YtmdibafofdghgaaGreatDoor
