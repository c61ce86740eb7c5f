/- Texts on the program and on the document, joined: BerA, BerS, Wid. -/
import Derived.Test.YtgjmnlgjdgjdbaaDoorMa03
import Derived.Test.YtgjmnlgjdgjdbaaDoorMa05
import Derived.BigQuiet
import Derived.Deep.RegionWith
import Derived.Laws.Rows
import Derived.Deep.QuietTactic
import Derived.Deep.DeepCutAuto
import Derived.Deep.CutBlock
import Derived.Test.YtgjmnlgjdgjdbaaDoorRows
import Derived.Test.YtgjmnlgjdgjdbaaDoorMa02
import Derived.Test.YtgjmnlgjdgjdbaaDoorMa01
import Derived.ProofKit
import Derived.OpenShut
import Derived.ShutString
/- ber's tags, lengths, Next, walked. -/
namespace Go.Proofs.YtgjmnlgjdgjdbaaDoor
open Go.ChangeShapes Go.WideShapes Go.ChangeAt Go.RowKit K P1 B5
set_option linter.unusedVariables false

theorem and31 (t : Int) (h0 : 0 ≤ t) (h1 : t ≤ 255) : bits .and .i64 t 31 = t % 32 := by
  have h : ∀ i : Fin 256, bits .and .i64 (i.val : Int) 31 = (i.val : Int) % 32 := by decide +kernel
  obtain ⟨k, rfl⟩ := Int.eq_ofNat_of_zero_le h0
  exact h ⟨k, by omega⟩
theorem and32 (t : Nat) (h1 : t < 256) : (bits .and .i64 (t : Int) 32 == 0) = !isMade t := by
  have h : ∀ i : Fin 256, (bits .and .i64 (i.val : Int) 32 == 0) = !isMade i.val := by decide +kernel
  exact h ⟨t, h1⟩
theorem istag_walk (t : Int) (w : World) :
    Calls Tryd.prog 45 #[.int .i64 t] w fun e w' => e = .returned (.bool (isTi t)) ∧ w = w' := by
  by_cases h0 : 0 ≤ t
  · by_cases h1 : t ≤ 255
    · have e : isTi t = (t % 32 != 31) := by
        unfold isTi isTag
        rw [decide_eq_true h0, decide_eq_true h1, Bool.true_and, Bool.true_and, Bool.eq_iff_iff, bne_iff_ne, bne_iff_ne]; omega
      have hand := and31 t h0 h1
      rw [e]; clear e
      go_enter Tryd.func45, Tryd.ntmps45
      go_wp2
      all_goals (go_ret; exact ⟨rfl, rfl⟩)
    · have e : isTi t = false := by unfold isTi; rw [decide_eq_false h1, Bool.false_and, Bool.and_false]
      rw [e]
      have h1' : 256 ≤ t := by omega
      clear h1 e
      go_enter Tryd.func45, Tryd.ntmps45
      go_wp2
      go_ret
      exact ⟨rfl, rfl⟩
  · have e : isTi t = false := by unfold isTi; rw [decide_eq_false h0, Bool.false_and]
    rw [e]
    have h0' : t ≤ -1 := by omega
    clear h0 e
    go_enter Tryd.func45, Tryd.ntmps45
    go_wp2
    go_ret
    exact ⟨rfl, rfl⟩
theorem rdW_ok (s : List UInt8) (p : Nat) (c k : Int) (h : Ok s p c) : Ok s (rdW s p c k).2.1 (rdW s p c k).2.2 := by
  have h1 := h.at_
  unfold rdW
  split
  · exact h
  · split
    · exact ⟨h.len, h1, by simp, by simp⟩
    · split
      · exact ⟨h.len, h1, by simp, by simp⟩
      · split
        · exact ⟨h.len, by simp only []; omega, by simp, by simp⟩
        · exact ⟨h.len, h1, by simp, by simp⟩
theorem rdW_small (s : List UInt8) (p : Nat) (c : Int) : (rdW s p c 1).1 < 256 := by
  by_cases hc : c = 0
  · subst hc
    by_cases hp : p < s.length
    · rw [rdW_one s p hp]; exact byt_lt s p
    · rw [rdW_late s p (by omega)]; simp
  · rw [rdW_off _ _ _ _ hc]; simp
theorem rdW_bound (s : List UInt8) (p : Nat) (c k : Int) : (rdW s p c k).1 < 9223372036854775808 := by
  unfold rdW
  split
  · simp
  · split
    · simp
    · split
      · simp
      · split
        · next h =>
          simp only []
          unfold numOk at h
          have hl := num_lt ((s.drop p).take k.toNat)
          have hle : ((s.drop p).take k.toNat).length ≤ 8 := by rw [List.length_take]; omega
          by_cases h8 : ((s.drop p).take k.toNat).length = 8
          · rw [h8] at hl h
            simp at h
            match hs : (s.drop p).take k.toNat with
            | [] => rw [hs] at h8; simp at h8
            | a :: r =>
              rw [hs] at h8 h
              have hr : r.length = 7 := by simpa using h8
              have hb : byt (a :: r) 0 = a.toNat := by simp [byt]
              rw [hb] at h
              rw [num_cons, hr]
              have := num_lt r
              rw [hr] at this
              have : a.toNat * 256 ^ 7 ≤ 127 * 256 ^ 7 := Nat.mul_le_mul_right _ (by omega)
              omega
          · have : (256 : Nat) ^ ((s.drop p).take k.toNat).length ≤ 256 ^ 7 := Nat.pow_le_pow_right (by omega) (by omega)
            omega
        · simp
theorem lenR_ok (s : List UInt8) (p : Nat) (c : Int) (ok : Ok s p c) : Ok s (lenR s p c).2.1 (lenR s p c).2.2 ∧ (lenR s p c).1 < 9223372036854775808 := by
  have ok1 := rdW_ok s p c 1 ok
  unfold lenR
  by_cases h1 : (rdW s p c 1).1 < 128
  · rw [if_pos h1]; exact ⟨ok1, by omega⟩
  · rw [if_neg h1]
    refine ⟨rdW_ok _ _ _ _ ⟨ok1.len, ok1.at_, ?_, ?_⟩, rdW_bound _ _ _ _⟩
    · have := ok1.lo; unfold newc; split <;> (try split) <;> omega
    · have := ok1.hi; unfold newc; split <;> (try split) <;> omega
theorem nx_way (s : List UInt8) : (nxE s = 0 ∧ nxQ s = ((rA s).1, (rBd s).1, s.drop (rBd s).2.1) ∧ (rBd s).2.2 = 0 ∧ isTi ((rA s).1 : Nat) = true ∧ (rBd s).2.1 ≤ s.length) ∨
    (nxE s = 50 ∧ nxQ s = (0, [], []) ∧ (¬ (rBd s).2.2 = 0 ∨ ((rBd s).2.2 = 0 ∧ isTi ((rA s).1 : Nat) = false))) := by
  have hI : ∀ n : Nat, n < 256 → isTi (n : Int) = isTag n := by
    intro n hn
    unfold isTi; rw [decide_eq_true (by omega), decide_eq_true (by omega), Int.toNat_natCast]; rfl
  rcases nxr_all s with ⟨h, a1, a2, a3, a4, a5, a6, a7⟩ | ⟨h, a1, a2⟩
  · left
    refine ⟨by unfold nxE; rw [h, if_pos rfl], by unfold nxQ; rw [h, if_pos rfl, a1, a4, a6], a5, by rw [hI _ a3]; exact a2, a7⟩
  · right
    refine ⟨by unfold nxE; rw [h]; rfl, by unfold nxQ; rw [h]; rfl, ?_⟩
    rw [hI _ a1]; exact a2
/-- An element in block g. -/
def Prt (w : World) (g T : Nat) (t : Int) (b : List UInt8) : Prop := w.heap[g]? = some (.cells #[.int .i64 t, .string (bs b)] T (0, 0))
theorem Prt.cells {w : World} {g T : Nat} {t : Int} {b : List UInt8} (h : Prt w g T t b) :
    w.cell? ⟨g, 0, none⟩ = some (.int .i64 t) ∧ w.cell? ⟨g, 1, none⟩ = some (.string (bs b)) ∧ w.frozen? ⟨g, 0, none⟩ = false ∧ w.frozen? ⟨g, 1, none⟩ = false :=
  ⟨cellRow h 0, cellRow h 1, freeRow h 0, freeRow h 1⟩
theorem Prt.setT {w : World} {g T : Nat} {t : Int} {b : List UInt8} (h : Prt w g T t b) (t2 : Int) : Prt (w.setCell ⟨g, 0, none⟩ (.int .i64 t2)) g T t2 b := by
  have := rowSet h 0 (.int .i64 t2); simpa [Prt] using this
theorem Prt.setB {w : World} {g T : Nat} {t : Int} {b : List UInt8} (h : Prt w g T t b) (b2 : List UInt8) : Prt (w.setCell ⟨g, 1, none⟩ (.string (bs b2))) g T t b2 := by
  have := rowSet h 1 (.string (bs b2)); simpa [Prt] using this
theorem Prt.new (w : World) (T : Nat) (t : Int) (b : List UInt8) : Prt (w.alloc (.cells #[.int .i64 t, .string (bs b)] T)) w.heap.size T t b := rowNew w _
theorem Prt.kp {S : List Nat} {a w : World} {g T : Nat} {t : Int} {b : List UInt8} (h : Prt a g T t b) (k : Kp S a w) (hg : g ∉ S) : Prt w g T t b := k.heap h hg
theorem Rdr.setElse {w : World} {b T : Nat} {s : List UInt8} {p : Nat} {c : Int} (h : Rdr w b T s p c) (g i : Nat) (hg : b ≠ g) (u : Value) : Rdr (w.setCell ⟨g, i, none⟩ u) b T s p c :=
  (Below.heap_setCell _ _ _ _ hg).trans h
theorem results_cell_row3 {P : Program} {fn : Func} {p u v : Tmp} {ty : TypeId} (h : fn.results = #[.cell p ty, .tmp u, .tmp v]) (tmps : Array Value) (w : World) (g : Nat) (t : TypeId) (cs : Array Value) (fr : Nat × Nat) (d : TypeDesc)
    (hp : tmps.getD p undef = .pointer (some ⟨g, 0, none⟩)) (hg : w.heap[g]? = some (.cells cs t fr))
    (hu : P.underlying ty = some d) (hd : (match d with | .struct _ | .array _ _ => true | _ => false) = true) (hi : (P.info? ty).map (·.size) = some cs.size) :
    (results fn tmps).run P w = .ok (.tuple #[.agg cs, tmps.getD u undef, tmps.getD v undef]) w := by
  have hp' : tmps[p]?.getD undef = .pointer (some ⟨g, 0, none⟩) := by simpa using hp
  simp [results, h, hp', asAddr, run_loadVar_row w g t ty cs fr d hg hu hd hi]
theorem Below_drewNa {B : Nat} {a b : World} (h : Below B a b) (n : Nat) : Below B a (b.drewN n) := ⟨h.os, h.tape, h.output, h.size, h.block⟩
theorem quiet_dr {P : Program} {f : FuncId} {args : Array Value} {w : World} {n : Nat} {v : Value}
    (h : Calls P f args (w.drewN n) fun e w' => e = .returned v ∧ ∃ k, w' = (w.drewN n).drewN k) : Calls P f args (w.drewN n) fun e w'' => e = .returned v ∧ ∃ m, w'' = w.drewN m :=
  h.mono fun _ _ ⟨he, k, hk⟩ => ⟨he, n + k, by rw [hk]; unfold World.drewN; simp [Nat.add_assoc]⟩
end Go.Proofs.YtgjmnlgjdgjdbaaDoor
/- The document's own bodies of numbers, walked. -/
namespace Go.Proofs.YtgjmnlgjdgjdbaaDoor
open Go.ChangeShapes Go.WideShapes Go.ChangeAt Go.RowKit K P1 B5
set_option linter.unusedVariables false

/-- A number as 64 bits. -/
def u64 (n : Int) : Nat := (n % 18446744073709551616).toNat
theorem u64_lt (n : Int) : u64 n < 18446744073709551616 := by unfold u64; omega
theorem byte_at (n : Int) (i : Nat) (hi : i ≤ 7) : (n / 2 ^ (8 * i)) % 256 = ((u64 n / 256 ^ i % 256 : Nat) : Int) := by
  have h : ((u64 n : Nat) : Int) = n % 18446744073709551616 := by unfold u64; omega
  obtain rfl | rfl | rfl | rfl | rfl | rfl | rfl | rfl : i = 0 ∨ i = 1 ∨ i = 2 ∨ i = 3 ∨ i = 4 ∨ i = 5 ∨ i = 6 ∨ i = 7 := by omega
  all_goals
    simp only [Nat.reduceMul, Nat.reducePow, Int.reducePow]
    omega
theorem pad8_take (m g : Nat) (h1 : 1 ≤ g) (h8 : g ≤ 8) : (pad 8 m).take (8 - (g - 1)) = (pad 8 m).take (8 - g) ++ [b8 (m / 256 ^ (g - 1) % 256)] := by
  obtain rfl | rfl | rfl | rfl | rfl | rfl | rfl | rfl : g = 1 ∨ g = 2 ∨ g = 3 ∨ g = 4 ∨ g = 5 ∨ g = 6 ∨ g = 7 ∨ g = 8 := by omega
  all_goals simp [pad]
def PnRel (n : Int) (w : World) (g : Nat) (v3 v4 : Value) (wr : World) : Prop :=
  g ≤ 8 ∧ v4 = .int .i64 ((g : Int) - 1) ∧ v3 = .string (bs ((pad 8 (u64 n)).take (8 - g))) ∧ Below w.heap.size w wr
def PsRel (n : Int) (w : World) (g : Nat) (v3 v5 : Value) (wr : World) : Prop :=
  ∃ i s, i + g = 7 ∧ v5 = .int .i64 (i : Nat) ∧ v3 = .string (bs s) ∧ s.length = 8 - i ∧ strip (7 - i) s = pn n ∧ wr = w
theorem byte_atN (m : Nat) (i : Nat) (hi : i ≤ 7) : ((m : Int) / 2 ^ (8 * i)) % 256 = ((m / 256 ^ i % 256 : Nat) : Int) := by
  obtain rfl | rfl | rfl | rfl | rfl | rfl | rfl | rfl : i = 0 ∨ i = 1 ∨ i = 2 ∨ i = 3 ∨ i = 4 ∨ i = 5 ∨ i = 6 ∨ i = 7 := by omega
  all_goals
    simp only [Nat.reduceMul, Nat.reducePow, Int.reducePow]
    omega
def P9Rel (m : Nat) (w : World) (g : Nat) (v3 v4 : Value) (wr : World) : Prop :=
  g ≤ 8 ∧ v4 = .int .i64 ((g : Int) - 1) ∧ v3 = .string (bs ((pad 8 m).take (8 - g))) ∧ Below w.heap.size w wr
end Go.Proofs.YtgjmnlgjdgjdbaaDoor
/- octet.Wide by itself. -/
namespace Go.Proofs.YtgjmnlgjdgjdbaaDoor
open Go.ChangeShapes Go.WideShapes Go.ChangeAt Go.RowKit P1 K
set_option linter.unusedVariables false

def WRel (w : World) (n : Nat) (vn vi : Value) (wr : World) : Prop :=
  ∃ (p : Nat) (C : Array Value) (x : Int), p ≤ 8 ∧ vn = .int .i64 ((n / 256 ^ (8 - p) : Nat) : Int) ∧ vi = .int .i64 x ∧ x = p - 1 ∧ wr.heap[w.heap.size]? = some (.cells C 100 (0, 0)) ∧ C.size = 8 ∧ tailIs C p (pad (8 - p) n) ∧ Below w.heap.size w wr

def ZRel (n k : Nat) (vi : Value) : Prop := ∃ (i : Nat), i ≤ 8 - k ∧ (∀ j, j < i → byt (pad 8 n) j = 0) ∧ vi = .int .i64 i

set_option maxRecDepth 100000 in
theorem octWide_in (n k : Nat) (h1 : n ≤ 9223372036854775807) (hk : 1 ≤ k) (hk8 : k ≤ 8) (w : World) :
    Calls Tryd.prog 48 #[.int .i64 n, .int .i64 k] w fun e w' => e = .returned (.tuple #[.string (bs (wideS n k)), .int .i64 (wideC n k)]) ∧ Below w.heap.size w w' := by
  go_enter Tryd.func48, Tryd.ntmps48
  go_wp2
  go_loopw [0, 7] (fun vn vi wr => WRel w n vn vi wr) (fun vn vi wr => (intOf vi + 1).toNat)
  case atStart =>
    exact ⟨8, _, _, by omega, by simp, rfl, rfl, rowNew _ _, rfl, rfl, (Below.refl _ _).alloc (Nat.le_refl _) _⟩
  case round =>
    obtain ⟨p, C, x, hp, rfl, rfl, hx, hC, hs, ht, hb⟩ := hrel
    rcases p with _ | q
    · obtain rfl : x = -1 := by omega
      clear hx
      have hpl := pad_length 8 n
      have hsl := run_sliceAt_arr_h (P := Tryd.prog) wr 100 5 8 Tryd.underlying100 (by kernel_rfl) w.heap.size (8 - k) (by omega) (by omega)
      have e8 : ((8 - k : Nat) : Int) = 8 - (k : Int) := by omega
      rw [e8] at hsl
      clear e8
      have HC := Lib.hid hC; have Hs := Lib.hid hs; have Hpl := Lib.hid hpl; clear hC hs hpl
      go_wp2
      go_loop [36] (fun vi => ZRel n k vi) (fun vi => 8 - (intOf vi).toNat)
      case atStart => exact ⟨0, Nat.zero_le _, by omega, rfl⟩
      case round =>
        obtain ⟨i, hi, hz, rfl⟩ := hrel
        have Hz := Lib.hid hz; clear hz
        have hbl := byt_lt (pad 8 n) i
        by_cases hlt : i < 8 - k
        · have hcell := tailCell HC.out ht i (by rw [Hpl.out]; omega)
          rw [Nat.zero_add] at hcell
          have hlt' : (i : Int) < 8 - (k : Int) := by omega
          by_cases hb0 : byt (pad 8 n) i = 0
          · rw [hb0] at hcell
            clear hbl
            have Hb0 := Lib.hid hb0; clear hb0
            go_wp2
            go_round
            case measure => simp [intOf]; omega
            case rel =>
              refine ⟨i + 1, by omega, fun j hj => ?_, by simp⟩
              rcases Nat.lt_or_ge j i with h | h
              · exact Hz.out j h
              · obtain rfl : j = i := by omega
                exact Hb0.out
          · have hbne : (((byt (pad 8 n) i : Nat) : Int) != 0) = true := by rw [bne_iff_ne]; omega
            have Hb0 := Lib.hid hb0; clear hb0
            go_wp2
            go_ret2
            have hbig : ¬ n < 256 ^ k := fun h => Hb0.out ((pad8_low n k hk8 h1).1 h i hlt)
            rw [(wide_big n k hbig).1, (wide_big n k hbig).2]
            exact ⟨rfl, hb⟩
        · have hyes : n < 256 ^ k := (pad8_low n k hk8 h1).2 fun j hj => Hz.out j (by omega)
          have hs2 := run_sliceAt_arr (P := Tryd.prog) wr 100 5 8 Tryd.underlying100 (by kernel_rfl) w.heap.size (8 - k) (by omega)
          have e8 : ((8 - k : Nat) : Int) = 8 - (k : Int) := by omega
          have hd := tailIs_drop ht (8 - k)
          rw [Nat.zero_add, show pad (8 - 0) n = pad ((8 - k) + k) n by rw [show 8 - k + k = 8 by omega], pad_drop] at hd
          have hcv := run_conv_tail (P := Tryd.prog) wr 49 5 9 Tryd.underlying49 Tryd.underlying5 Tryd.underlying9 HC.out hd (8 - (8 - k)) (8 - (8 - k)) (by rw [pad_length]; omega)
          rw [e8] at hs2
          have Hyes := Lib.hid hyes
          clear e8 hd hyes
          go_wp2
          go_ret2
          rw [(wide_yes n k hk hk8 Hyes.out).1, (wide_yes n k hk hk8 Hyes.out).2]
          exact ⟨rfl, hb⟩
    · obtain rfl : x = q := by omega
      clear hx
      have hle : n / 256 ^ (8 - (q + 1)) ≤ 9223372036854775807 := Nat.le_trans (Nat.div_le_self _ _) h1
      obtain ⟨y, hcell⟩ : ∃ x, wr.cell? ⟨w.heap.size, q, none⟩ = some x := ⟨C[q]'(by omega), by simp [World.cell?, hC]⟩
      have hfr : wr.frozen? ⟨w.heap.size, q, none⟩ = false := freeRow hC q
      have hst : n / 256 ^ (8 - (q + 1)) / 256 = n / 256 ^ (8 - q) := by rw [Nat.div_div_eq_div_mul, ← Nat.pow_succ, show (8 - (q + 1)).succ = 8 - q by omega]
      have hpd : pad (8 - q) n = b8 (n / 256 ^ (8 - (q + 1)) % 256) :: pad (8 - (q + 1)) n := by rw [show 8 - q = (8 - (q + 1)) + 1 by omega]; rfl
      generalize hq : n / 256 ^ (8 - (q + 1)) = m at *
      have HC := Lib.hid hC; have Hs := Lib.hid hs; have Hst := Lib.hid hst; have Hpd := Lib.hid hpd; have Hq := Lib.hid hq; clear hC hs hst hpd hq
      go_wp2
      go_roundw
      case measure => simp [intOf]
      case rel =>
        refine ⟨q, _, (q : Int) - 1, by omega, ?_, rfl, rfl, rowSet HC.out q _, by simp [Hs.out], ?_, hb.setCell (Nat.le_refl _) _⟩
        · rw [← Hst.out]; simp
        · rw [Hpd.out]
          have := tailIs_set ht (by rw [Hs.out]; omega) (b8 (m % 256))
          rw [b8_toNat _ (by omega)] at this
          simpa using this

theorem octWide_walk (n k : Int) (h0 : -9223372036854775808 ≤ n) (h1 : n ≤ 9223372036854775807) (w : World) :
    Calls Tryd.prog 48 #[.int .i64 n, .int .i64 k] w fun e w' => e = .returned (.tuple #[.string (bs (wideS n k)), .int .i64 (wideC n k)]) ∧ Below w.heap.size w w' := by
  by_cases hk : k < 1
  · rw [(wide_no n k (by simp [wideOk]; omega)).1, (wide_no n k (by simp [wideOk]; omega)).2]
    go_enter Tryd.func48, Tryd.ntmps48
    go_wp2
    go_ret2
    exact ⟨rfl, Below.refl _ _⟩
  · by_cases hk8 : 8 < k
    · rw [(wide_no n k (by simp [wideOk]; omega)).1, (wide_no n k (by simp [wideOk]; omega)).2]
      go_enter Tryd.func48, Tryd.ntmps48
      go_wp2
      go_ret2
      exact ⟨rfl, Below.refl _ _⟩
    · by_cases hn : n < 0
      · rw [(wide_no n k (by simp [wideOk]; omega)).1, (wide_no n k (by simp [wideOk]; omega)).2]
        go_enter Tryd.func48, Tryd.ntmps48
        go_wp2
        go_ret2
        exact ⟨rfl, Below.refl _ _⟩
      · obtain ⟨m, rfl⟩ := Int.eq_ofNat_of_zero_le (show 0 ≤ n by omega)
        obtain ⟨j, rfl⟩ := Int.eq_ofNat_of_zero_le (show 0 ≤ k by omega)
        exact octWide_in m j (by omega) (by omega) (by omega) w
theorem octWide8 (n : Nat) (h : n < 9223372036854775808) (w : World) :
    Calls Tryd.prog 48 #[.int .i64 n, .int .i64 8] w fun e w' => e = .returned (.tuple #[.string (bs (pad 8 n)), .int .i64 0]) ∧ Below w.heap.size w w' := by
  have := octWide_walk n 8 (by omega) (by omega) w
  have e := wide_yes n 8 (by omega) (by omega) (by omega)
  rw [show ((8 : Nat) : Int) = 8 from rfl] at e
  rwa [e.1, e.2] at this
end Go.Proofs.YtgjmnlgjdgjdbaaDoor
