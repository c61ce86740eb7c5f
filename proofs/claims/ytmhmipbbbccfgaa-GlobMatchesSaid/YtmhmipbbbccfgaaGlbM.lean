/- The document's Matches: plain, and lists of truth values. -/
import Derived.Test.YtmhmipbbbccfgaaGlbG
import Derived.Test.YtmhmipbbbccfgaaFun
namespace Go.Proofs.Ytmhmipbbbccfgaa
open Go.ChangeShapes Go.WideShapes Go.ChangeAt Go.RowKit K G13
set_option linter.unusedVariables false

/-- Whether the first i bytes are matched by these pieces. -/
def rc (l : List Pc) (s : List UInt8) (i : Nat) : Bool := mt l (s.take i)
theorem rc_nil (s : List UInt8) (i : Nat) (h : i ≤ s.length) : rc [] s i = decide (i = 0) := by
  unfold rc
  rw [G13.mt]
  cases i with
  | zero => rfl
  | succ n =>
    cases s with
    | nil => simp at h
    | cons c t => simp
theorem rc_whole (l : List Pc) (s : List UInt8) : rc l s s.length = mt l s := by unfold rc; rw [List.take_length]
theorem rc_app (l k : List Pc) (s : List UInt8) (i : Nat) (h : i ≤ s.length) : rc (l ++ k) s i = true ↔ ∃ j, j ≤ i ∧ rc l s j = true ∧ mt k ((s.take i).drop j) = true := by
  unfold rc
  rw [mt_app, List.length_take, Nat.min_eq_left h]
  constructor
  · rintro ⟨j, hj, h1, h2⟩
    rw [List.take_take, Nat.min_eq_left hj] at h1
    exact ⟨j, hj, h1, h2⟩
  · rintro ⟨j, hj, h1, h2⟩
    exact ⟨j, hj, by rw [List.take_take, Nat.min_eq_left hj]; exact h1, h2⟩
theorem mt_just_any : ∀ x : List UInt8, mt [.any] x = true
  | [] => by rw [G13.mt, G13.mt]; rfl
  | c :: t => by rw [G13.mt, mt_just_any t, Bool.or_true]
theorem rc_any (l : List Pc) (s : List UInt8) (i : Nat) (h : i ≤ s.length) : rc (l ++ [.any]) s i = (rc l s i || (decide (0 < i) && rc (l ++ [.any]) s (i - 1))) := by
  rw [Bool.eq_iff_iff, Bool.or_eq_true, Bool.and_eq_true, decide_eq_true_eq, rc_app _ _ _ _ h, rc_app _ _ _ _ (by omega)]
  constructor
  · rintro ⟨j, hj, h1, _⟩
    rcases Nat.lt_or_ge j i with hlt | hge
    · exact .inr ⟨by omega, j, by omega, h1, mt_just_any _⟩
    · obtain rfl : j = i := by omega
      exact .inl h1
  · rintro (h1 | ⟨_, j, hj, h1, _⟩)
    · exact ⟨i, Nat.le_refl _, h1, mt_just_any _⟩
    · exact ⟨j, by omega, h1, mt_just_any _⟩
theorem mt_just (p : Pc) (hp : p.isAny = false) (x : List UInt8) : mt [p] x = (match x with | [c] => p.hit c | _ => false) := by
  cases p with
  | any => cases hp
  | one b =>
    match x with
    | [] => rw [G13.mt]
    | [c] => rw [G13.mt, G13.mt]; simp [Pc.hit]
    | c :: d :: t => rw [G13.mt, G13.mt]; simp
  | set f =>
    match x with
    | [] => rw [G13.mt]
    | [c] => rw [G13.mt, G13.mt]; simp [Pc.hit]
    | c :: d :: t => rw [G13.mt, G13.mt]; simp
theorem rc_hit (l : List Pc) (p : Pc) (hp : p.isAny = false) (s : List UInt8) (i : Nat) (h : i ≤ s.length) : rc (l ++ [p]) s i = (decide (0 < i) && rc l s (i - 1) && hitN p (byt s (i - 1))) := by
  rw [Bool.eq_iff_iff, Bool.and_eq_true, Bool.and_eq_true, decide_eq_true_eq, rc_app _ _ _ _ h]
  have hone : ∀ j, j ≤ i → (mt [p] ((s.take i).drop j) = true ↔ j + 1 = i ∧ hitN p (byt s (i - 1)) = true) := by
    intro j hj
    rw [mt_just p hp]
    have hlen : ((s.take i).drop j).length = i - j := by rw [List.length_drop, List.length_take, Nat.min_eq_left h]
    by_cases h1 : j + 1 = i
    · have hlt : j < s.length := by omega
      have e : (s.take i).drop j = [s[j]] := by
        rw [List.drop_take, show i - j = 1 by omega]
        rw [List.drop_eq_getElem_cons hlt]; rfl
      rw [e]
      have hb : byt s (i - 1) = s[j].toNat := by rw [← byt_get s j hlt, show i - 1 = j by omega]
      simp only [hb, hitN, UInt8.ofNat_toNat]
      exact ⟨fun k => ⟨h1, k⟩, fun k => k.2⟩
    · constructor
      · intro k
        exfalso
        match hx : (s.take i).drop j, k with
        | [], k => cases k
        | [c], k => rw [hx] at hlen; simp at hlen; omega
        | c :: d :: t, k => cases k
      · rintro ⟨k, _⟩; exact absurd k h1
  constructor
  · rintro ⟨j, hj, h1, h2⟩
    obtain ⟨e, h3⟩ := (hone j hj).1 h2
    obtain rfl : j = i - 1 := by omega
    exact ⟨⟨by omega, h1⟩, h3⟩
  · rintro ⟨⟨h0, h1⟩, h3⟩
    exact ⟨i - 1, by omega, h1, (hone (i - 1) (by omega)).2 ⟨by omega, h3⟩⟩
/-! ### Truth values in a block -/
def BRw (w : World) (b n : Nat) (f : Nat → Bool) : Prop := ∃ c : Array Value, w.heap[b]? = some (.cells c 4 (0, 0)) ∧ c.size = n ∧ ∀ i, i < n → c[i]? = some (.bool (f i))
theorem BRw.cell {w : World} {b n : Nat} {f : Nat → Bool} (h : BRw w b n f) {i : Nat} (hi : i < n) : w.cell? ⟨b, i, none⟩ = some (.bool (f i)) ∧ w.frozen? ⟨b, i, none⟩ = false := by
  obtain ⟨c, h1, _, h3⟩ := h
  exact ⟨(cellRow h1 i).trans (h3 i hi), freeRow h1 i⟩
theorem BRw.lt {w : World} {b n : Nat} {f : Nat → Bool} (h : BRw w b n f) : b < w.heap.size := by
  obtain ⟨c, h1, _⟩ := h; exact lt_of_block h1
theorem BRw.below {w w' : World} {b n : Nat} {f : Nat → Bool} (h : BRw w b n f) (k : Below w.heap.size w w') : BRw w' b n f := by
  obtain ⟨c, h1, h2, h3⟩ := h
  exact ⟨c, (k.block b (lt_of_block h1)).trans h1, h2, h3⟩
theorem BRw.drew {w : World} {b n : Nat} {f : Nat → Bool} (h : BRw w b n f) : BRw w.drew b n f := h
theorem BRw.congr {w : World} {b n : Nat} {f g : Nat → Bool} (h : BRw w b n f) (e : ∀ i, i < n → f i = g i) : BRw w b n g := by
  obtain ⟨c, h1, h2, h3⟩ := h
  exact ⟨c, h1, h2, fun i hi => by rw [h3 i hi, e i hi]⟩
theorem BRw.set {w : World} {b n : Nat} {f : Nat → Bool} (h : BRw w b n f) {k : Nat} (x : Bool) : BRw (w.setCell ⟨b, k, none⟩ (.bool x)) b n fun i => if i = k then x else f i := by
  obtain ⟨c, h1, h2, h3⟩ := h
  refine ⟨c.setIfInBounds k (.bool x), rowSet h1 k _, by rw [Array.size_setIfInBounds, h2], fun i hi => ?_⟩
  by_cases e : i = k
  · subst e; rw [Array.getElem?_setIfInBounds_self_of_lt (by omega)]; simp
  · rw [Array.getElem?_setIfInBounds_ne (by omega), h3 i hi]; simp [e]
theorem BRw.else {w : World} {b d n : Nat} {f : Nat → Bool} (h : BRw w b n f) (hd : b ≠ d) (k : Nat) (v : Value) : BRw (w.setCell ⟨d, k, none⟩ v) b n f := by
  obtain ⟨c, h1, h2, h3⟩ := h
  exact ⟨c, (Below.heap_setCell _ _ _ _ hd).trans h1, h2, h3⟩
theorem binfo : (Try.prog.info? 4).map (fun i => (i.zero, i.size, i.bytes)) = some (some (.bool false), 1, 1) := by kernel_rfl
theorem make_bools (n : Nat) (hn : n ≤ 1000000) (w : World) : ∃ W : World, (Instr.makeSlice 84 (.int .i64 (n : Nat)) (.int .i64 (n : Nat))).run Try.prog w = .ok (.slice (some ⟨w.heap.size, 0, none⟩) n n) W ∧ BRw W w.heap.size n (fun _ => false) ∧ Below w.heap.size w W := by
  obtain ⟨i0, hi, hz0, hz1, hz2⟩ := info_of binfo
  have h := Go.run_make (P := Try.prog) w 84 4 i0 _ Try.underlying84 hi hz0 .i64 .i64 (n : Nat) (n : Nat) (by omega) (by omega) (by rw [hz2]; omega) (by omega)
  rw [hz1] at h
  refine ⟨_, h, ⟨_, rowNew w _, by rw [size_madeCells]; simp, fun i hi => ?_⟩, alloc_in2 w _⟩
  simp [madeCells, Value.cells, hi, Nat.mod_one]
end Go.Proofs.Ytmhmipbbbccfgaa
