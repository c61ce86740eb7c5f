/- ber.Canon, walked; all calls keep their word. -/
import Derived.Test.YtepgkoafjeacnaaBerF
import Derived.Test.YtepgkoafjeacnaaBerJ
import Derived.Test.YtepgkoafjeacnaaBerY
namespace Go.Proofs.Ytepgkoafjeacnaa
open Go.ChangeShapes Go.WideShapes Go.ChangeAt Go.RowKit K P1 B5
set_option linter.unusedVariables false

theorem canon_walk (l : List UInt8) (hl : l.length ≤ 100000000) (w : World) :
    Calls Try.prog 20 #[.string (bs l)] w fun e w' => e = .returned (.tuple #[.string (bs (whC l)), .int .i64 (whE l : Nat)]) ∧ Below w.heap.size w w' := by
  have hD := deep_walk l hl w
  cases hwh : wh l with
  | error e =>
    obtain ⟨a1, a2, a3⟩ := wh_bad hwh
    have hec := wh_codes hwh
    rw [a1, a2] at hD
    rw [a1, a3]
    have hne : (((e : Nat) : Int) != 0) = true := by rw [bne_iff_ne]; omega
    have HD := Lib.hid hD
    clear hD hwh a1 a2 a3 hec
    go_enter Try.func20, Try.ntmps20
    go_wp2_with fail
    refine HD.out.mono ?_
    rintro e w1 ⟨rfl, b1⟩
    go_wp2
    go_ret2
    exact ⟨rfl, b1⟩
  | ok f =>
    obtain ⟨a1, a2, a3⟩ := wh_ok hwh
    rw [a1, a2] at hD
    rw [a1, a3]
    have hS : ∀ w1 : World, Calls Try.prog 37 #[.string (bs l)] w1 fun e w' => e = .returned (.string (bs f.enc)) ∧ Below w1.heap.size w1 w' := short_walk l.length 1 l f (Nat.le_refl _) hl (wh_inv hwh).2.2
    have HS := Lib.hid hS
    have HD := Lib.hid hD
    clear hD hS hwh a1 a2 a3
    generalize f.enc = X at *
    go_enter Try.func20, Try.ntmps20
    go_wp2_with fail
    refine HD.out.mono ?_
    rintro e w1 ⟨rfl, b1⟩
    go_wp2_with fail
    refine (HS.out _).mono ?_
    rintro e w2 ⟨rfl, b2⟩
    go_wp2
    go_ret2
    exact ⟨rfl, b1.trans (b2.mono b1.size)⟩
theorem rep_ok : RepOk := by
  intro c w hc
  refine (Try.strings_Repeat (bs [120]) c w (by omega) (by rw [bs_size]; simp; omega)).mono ?_
  rintro e w' ⟨rfl, hb⟩
  have h1 : ∀ c : Nat, Lib.repeatL [(120 : UInt8)] c = List.replicate c 120 := by
    intro c
    induction c with
    | zero => rfl
    | succ c ih => unfold Lib.repeatL; rw [ih]; rfl
  rw [bs_toList, h1]
  exact ⟨rfl, hb⟩
theorem next_put (t : Nat) (b r : List UInt8) (w : World) (ht : isTag t = true) (ht2 : t < 256) (hb : b.length ≤ 300) (hr : r.length ≤ 300) :
    Calls Try.prog 15 #[.string (bs (put t b ++ r))] w fun e w' => e = .returned (.tuple #[.agg #[.int .i64 t, .string (bs b)], .string (bs r), .int .i64 0]) ∧ Below w.heap.size w w' := by
  obtain ⟨x1, x2, x3, x4⟩ := nx_put t b r ht ht2 (by omega)
  have hl : (put t b ++ r).length ≤ 140737488351232 := by
    rw [List.length_append, put_len]; have := short_le b.length; omega
  have h := next_ok (put t b ++ r) hl x1 w
  rw [x2, x3, x4] at h
  exact h
theorem parts_puts (ps : List (Nat × List UInt8)) (w : World) (h : ∀ p ∈ ps, isTag p.1 = true ∧ p.1 < 256 ∧ p.2.length ≤ 300) (hn : ps.length ≤ 30) :
    Calls Try.prog 16 #[.string (bs (puts ps))] w (PtPost ps w) := by
  have hl : ∀ ps : List (Nat × List UInt8), (∀ p ∈ ps, isTag p.1 = true ∧ p.1 < 256 ∧ p.2.length ≤ 300) → (puts ps).length ≤ ps.length * 310 := by
    intro ps
    induction ps with
    | nil => intro _; simp [puts]
    | cons p ps ih =>
      intro h
      have h1 := ih (fun q hq => h q (by simp [hq]))
      have h2 := (h p (by simp)).2.2
      have h3 := short_le p.2.length
      have : puts (p :: ps) = put p.1 p.2 ++ puts ps := by simp [puts]
      rw [this, List.length_append, put_len, List.length_cons]; omega
  have hle := hl ps h
  have hp := prt_puts ps 0 (fun p hp => ⟨(h p hp).1, (h p hp).2.1, by have := (h p hp).2.2; omega⟩) (by omega)
  refine (parts_list_walk (puts ps) (by omega) w).mono ?_
  intro e w' hq
  rcases hq with ⟨c, h1, h2, h3⟩ | ⟨qs, v, h1, h2, h3, h4⟩
  · rw [show prt 0 (puts ps) = .ok ps from hp] at h1; cases h1
  · rw [show prt 0 (puts ps) = .ok ps from hp] at h1
    cases h1
    exact ⟨v, h2, h3, h4⟩
theorem number_yes (l : List UInt8) (w : World) (h : nOk l = true) : Calls Try.prog 17 #[.string (bs l)] w fun e w' => e = .returned (.tuple #[.int .i64 (nv l), .int .i64 0]) ∧ Below w.heap.size w w' := by
  have hl : l.length ≤ 8 := by
    unfold nOk at h
    simp only [Bool.and_eq_true, decide_eq_true_eq] at h
    exact h.2.1
  have := number_walk l (by omega) w
  rw [show nuV l = nv l by unfold nuV; rw [h]; rfl, show nuE l = 0 by unfold nuE; rw [h]; rfl] at this
  exact this
theorem unsigned_yes (l : List UInt8) (w : World) (h : uOk l = true) : Calls Try.prog 18 #[.string (bs l)] w fun e w' => e = .returned (.tuple #[.int .u64 (uv l), .int .i64 0]) ∧ Below w.heap.size w w' := by
  have hl : l.length ≤ 9 := by
    unfold uOk nOk at h
    simp only [Bool.or_eq_true, Bool.and_eq_true, decide_eq_true_eq, beq_iff_eq] at h
    rcases h with h | h
    · omega
    · have := h.1.2.1; omega
  have := unsigned_walk l (by omega) w
  rw [show uuV l = uv l by unfold uuV; rw [h]; rfl, show uuE l = 0 by unfold uuE; rw [h]; rfl] at this
  exact this
theorem ber_ok : BerOk2 (fun _ => True) where
  keep := fun _ _ _ _ => trivial
  works := fun w hw => works_of (fun _ => True) (fun _ _ _ _ => trivial) (fun l w hl _ => canon_walk l (by omega) w) (fun t b r w h1 h2 h3 h4 _ => next_put t b r w h1 h2 h3 h4) (fun l w h _ => number_yes l w h) w hw
  wrap := fun t b w _ _ hb _ => wrap_walk t b (by omega) w
  deep := fun l w hl _ => deep_walk l (by omega) w
  canon := fun l w hl _ => canon_walk l (by omega) w
  putn := fun n w h0 h1 _ => putnumber_walk n h0 h1 w
  putu := fun m w hm _ => putunsigned_walk m hm w
  next := fun t b r w h1 h2 h3 h4 _ => next_put t b r w h1 h2 h3 h4
  parts := fun ps w h hn _ => parts_puts ps w h hn
  number := fun l w h _ => number_yes l w h
  unsigned := fun l w h _ => unsigned_yes l w h
end Go.Proofs.Ytepgkoafjeacnaa
