/- Chars, the program's and the document's, the document's Check and Mark, walked. -/
import Derived.Test.YtkpcfbadhoiigaaDoorUtfE
import Derived.Test.YtkpcfbadhoiigaaDoorRow
namespace Go.Proofs.YtkpcfbadhoiigaaDoor
open Go.ChangeShapes Go.WideShapes Go.ChangeAt Go.RowKit K U4
set_option linter.unusedVariables false

/-- What Chars hands back: the code, and the characters in a list of its own. -/
def ChPost (l : List UInt8) (w : World) (e : Ending) (w' : World) : Prop :=
  ∃ v, e = .returned (.tuple #[v, .int .i64 (chE l : Nat)]) ∧ OwnI w' w.heap.size 3 v (chL l) ∧ Below w.heap.size w w'
def CRel (l : List UInt8) (w : World) (g : Nat) (v0 v4 : Value) (wr : World) : Prop :=
  ∃ pre r, AllC pre ∧ flat pre ++ r = l ∧ r.length = g ∧ v0 = .string (bs r) ∧ OwnI wr w.heap.size 3 v4 pre ∧ Below w.heap.size w wr
theorem int_info : (Tryd.prog.info? 3).map (fun i => (i.zero, i.size, i.bytes)) = some (some (.int .i64 0), 1, 8) := by kernel_rfl
theorem ret_two {a b c d : Value} (h : a = b) (k : c = d) : Ending.returned (.tuple #[a, c]) = .returned (.tuple #[b, d]) := by rw [h, k]
theorem at_ok {pre : List Nat} {l : List UInt8} {p : Nat} (ha : AllC pre) (h : flat pre ++ l.drop p = l) (hp : p ≤ l.length) (hf : fOk (l.drop p) = true) :
    AllC (pre ++ [fC (l.drop p)]) ∧ flat (pre ++ [fC (l.drop p)]) ++ l.drop (p + fN (l.drop p)) = l ∧ p + fN (l.drop p) ≤ l.length := by
  obtain ⟨h1, h2⟩ := step_ok ha h hf
  rw [List.drop_drop] at h2
  have h3 := (fN_le hf).2.2
  rw [List.length_drop] at h3
  exact ⟨h1, h2, by omega⟩
theorem drop_ne {l : List UInt8} {p : Nat} (h : p < l.length) : l.drop p ≠ [] := by
  intro e
  have := congrArg List.length e
  rw [List.length_drop] at this
  simp at this; omega
def CqRel (l : List UInt8) (w : World) (g : Nat) (v4 v5 : Value) (wr : World) : Prop :=
  ∃ pre p, AllC pre ∧ flat pre ++ l.drop p = l ∧ p ≤ l.length ∧ l.length - p = g ∧ v5 = .int .i64 (p : Nat) ∧ OwnI wr w.heap.size 3 v4 pre ∧ Below w.heap.size w wr
set_option maxRecDepth 100000 in
set_option maxHeartbeats 1000000 in
theorem qchars_walk (l : List UInt8) (hl : l.length ≤ 10000) (w : World) :
    Calls Tryd.prog 70 #[.string (bs l)] w (ChPost l w) := by
  obtain ⟨i0, hi, hz0, hz1, hz2⟩ := info_of int_info
  go_enter Tryd.func70, Tryd.ntmps70
  go_wp2
  go_loopg [4, 5] l.length (fun g v4 v5 wr => CqRel l w g v4 v5 wr)
  case atStart => exact ⟨[], 0, AllC.nil, rfl, by omega, rfl, rfl, OwnI.nil _ _ _, Below.refl _ _⟩
  case round =>
    obtain ⟨pre, p, ha, hp, hpl2, hg, rfl, ho, hb⟩ := hrel
    have hpl : pre.length ≤ l.length := by
      have := flat_len pre
      rw [← hp, List.length_append]; omega
    by_cases hlt : p < l.length
    · have hr := drop_ne hlt
      have hF := qfirst_walk (l.drop p) (by rw [List.length_drop]; omega) wr
      cases hf : fOk (l.drop p)
      · have HE := Lib.hid (chE_none (step_bad ha hp hr hf))
        obtain ⟨e1, e2, e3⟩ := f_not hf
        rw [e1, e2, e3] at hF
        have HF := Lib.hid hF
        clear hF e1 e2 e3 hp ha hr hg hf ho
        go_wp2_with fail
        refine HF.out.mono ?_
        rintro e w1 ⟨rfl, d1⟩
        have hb2 := hb.trans (d1.mono hb.size)
        clear d1 hb
        go_wp2
        go_ret2
        exact ⟨_, ret_two rfl (by rw [HE.out.1]; rfl), by rw [HE.out.2]; exact OwnI.nil _ _ _, hb2⟩
      · have hfl := fN_le hf
        have hE : fE (l.drop p) = 0 := by unfold fE; rw [hf]; rfl
        rw [hE] at hF
        have HS := Lib.hid (at_ok ha hp hpl2 hf)
        generalize fC (l.drop p) = C at hF HS
        generalize fN (l.drop p) = N at hF HS hfl
        rw [List.length_drop] at hfl
        obtain ⟨n1, n4, nl⟩ := hfl
        have HF := Lib.hid hF
        have HG := Lib.hid hg
        clear hF hE hp ha hr hg hf
        go_wp2_with fail
        refine HF.out.mono ?_
        rintro e w1 ⟨rfl, d1⟩
        have ho1 := ho.below d1
        have hb1 := hb.trans (d1.mono hb.size)
        clear d1 hb ho
        go_wp2_with (at_builtin; refine wpList_append_own _ rfl _ _ 95 rfl w.heap.size 3 i0 (.int .i64 0) 1 8 Tryd.underlying95 hi hz0 hz1 hz2 rfl (by decide) _ _ _ rfl (World.ownsRow.alloc ho1 _) ⟨w1.heap.size, 0, none⟩ 1 1 [.int .i64 (C : Nat)] rfl rfl ?c1 ?c2 ?c3 ?c4 ?c5 ?_)
        case c1 =>
          intro j u hj
          match j, hj with
          | 0, hj => simp at hj; subst hj; simp [Addr.add]
        case c2 => intro u hu; simp at hu; subst hu; rfl
        case c3 => unfold maxLen; omega
        case c4 => omega
        case c5 => have := hb1.size; simp; omega
        intro v' w2 hown' hgrow _
        have hb2 := (hb1.alloc (by have := hb1.size; omega) (.cells #[.int .i64 (C : Nat)] 3)).grown hgrow (by have := hb1.size; simp; omega) (fun k hk => (World.ownsRow.lt ho1 k hk).1)
        have ho2 : OwnI w2 w.heap.size 3 v' (pre ++ [C]) := OwnI.put hown'
        clear hown' hgrow ho1 hb1
        go_wp2
        go_roundg (l.length - (p + N))
        case measure => have := HG.out; omega
        case rel => exact ⟨pre ++ [C], p + N, HS.out.1, HS.out.2.1, HS.out.2.2, rfl, by simp, ho2, hb2⟩
    · obtain rfl : p = l.length := by omega
      have hp2 : flat pre ++ [] = l := by rw [List.drop_length] at hp; exact hp
      have HE := Lib.hid (chE_some (step_end ha hp2))
      clear hp hp2 ha hg
      go_wp2
      go_ret2
      exact ⟨_, ret_two rfl (by rw [HE.out.1]; rfl), by rw [HE.out.2]; exact ho, hb⟩
theorem uqcheck_walk (l : List UInt8) (hl : l.length ≤ 10000) (w : World) :
    Calls Tryd.prog 62 #[.string (bs l)] w fun e w' => e = .returned (.int .i64 (chE l : Nat)) ∧ Below w.heap.size w w' := by
  have HC := Lib.hid (qchars_walk l hl w)
  go_enter Tryd.func62, Tryd.ntmps62
  go_wp2_with fail
  refine HC.out.mono ?_
  rintro e w1 ⟨v, rfl, ho, hb⟩
  clear ho
  go_wp2
  go_ret
  exact ⟨rfl, hb⟩
end Go.Proofs.YtkpcfbadhoiigaaDoor
