/- Texts on the program and on the document, joined: LxqH, LxqP, LexH. -/
import Derived.Test.YtaeglmgpoboihaaGreatDoorMa27
import Derived.Test.YtaeglmgpoboihaaGreatDoorMa04
import Derived.Shelf.Strings.SlTrimAscii
import Derived.Lib.IndexMore
/- The program's skip, walked. -/
namespace Go.Proofs.YtaeglmgpoboihaaGreatDoor
open Go.ChangeShapes Go.WideShapes Go.ChangeAt Go.RowKit K L14
set_option linter.unusedVariables false

/-- What stands behind the first line's end. -/
def aftL : List UInt8 → List UInt8
  | [] => []
  | c :: t => if c = 10 then t else aftL t
theorem aftL_len : ∀ s, (aftL s).length ≤ s.length
  | [] => Nat.le_refl _
  | c :: t => by
    have := aftL_len t
    simp only [aftL]; split <;> simp only [List.length_cons] <;> omega
theorem cut_aft : ∀ l : List UInt8, (Lib.cut l [10]).2.1 = aftL l := by
  have h : ∀ l : List UInt8, (if 0 ≤ Lib.indexByte l 10 then l.drop ((Lib.indexByte l 10).toNat + 1) else []) = aftL l := by
    intro l
    induction l with
    | nil => rfl
    | cons b l ih =>
      have hge := Lib.indexByte_ge l 10
      unfold aftL
      by_cases hb : b = 10
      · subst hb; rfl
      · rw [if_neg hb, ← ih]
        have hbb : (b == 10) = false := by rw [beq_eq_false_iff_ne]; exact hb
        by_cases h1 : Lib.indexByte l 10 = -1
        · have e : Lib.indexByte (b :: l) 10 = -1 := by unfold Lib.indexByte; rw [hbb, h1]; rfl
          rw [e, h1]; rfl
        · have h2 : (Lib.indexByte l 10 == -1) = false := by rw [beq_eq_false_iff_ne]; exact h1
          have e : Lib.indexByte (b :: l) 10 = Lib.indexByte l 10 + 1 := by
            rw [Lib.indexByte, hbb, h2]; rfl
          rw [e, if_pos (by omega), if_pos (by omega), show (Lib.indexByte l 10 + 1).toNat + 1 = ((Lib.indexByte l 10).toNat + 1) + 1 by omega, List.drop_succ_cons]
  intro l
  rw [← h l]
  unfold Lib.cut
  rw [Lib.index_one]
  split <;> rfl
def bl4 : List UInt8 := [9, 10, 13, 32]
theorem bl_has : ∀ n : Fin 256, bl4.contains (UInt8.ofNat n.val) = blN n.val := by decide +kernel
theorem bl_of (c : UInt8) : bl4.contains c = blN c.toNat := by
  have h := bl_has ⟨c.toNat, c.toNat_lt⟩
  simpa using h
theorem bl_35 : bl4.contains 35 = false := by decide
theorem rst_bl {c : UInt8} {t : List UInt8} (h : bl4.contains c = true) : rst (c :: t) = rst t := by
  have h35 : ¬ c = 35 := fun e => by rw [e, bl_35] at h; cases h
  unfold rst
  simp only [skp]
  rw [bl_of] at h
  rw [h, Bool.or_true, if_pos rfl, if_neg h35]
  rw [show (if c = 10 then false else false) = false by split <;> rfl, List.drop_succ_cons]
theorem rst_trim : ∀ s : List UInt8, rst (Lib.trimLeftS s bl4) = rst s
  | [] => rfl
  | c :: t => by
    unfold Lib.trimLeftS
    rw [List.dropWhile_cons]
    split
    · next h =>
      rw [rst_bl h]
      exact rst_trim t
    · rfl
theorem skp_true : ∀ t : List UInt8, t.drop (skp true t) = rst (aftL t)
  | [] => rfl
  | c :: t => by
    simp only [skp, aftL, Bool.true_or, if_true]
    by_cases h : c = 10
    · rw [if_pos h, if_pos h]; rfl
    · rw [if_neg h, if_neg h]
      rw [show (if c = 35 then true else true) = true by split <;> rfl, List.drop_succ_cons]
      exact skp_true t
theorem rst_rem (t : List UInt8) : rst (35 :: t) = rst (aftL t) := by
  rw [← skp_true t]
  rfl
theorem rst_stop {c : UInt8} {t : List UInt8} (h : ¬ c = 35) (h2 : bl4.contains c = false) : rst (c :: t) = c :: t := by
  unfold rst
  rw [bl_of] at h2
  rw [skp_stop h2 (by simpa using h)]; rfl
theorem trim_head (s : List UInt8) : Lib.trimLeftS s bl4 = [] ∨ ∃ c t, Lib.trimLeftS s bl4 = c :: t ∧ bl4.contains c = false := by
  cases h : Lib.trimLeftS s bl4 with
  | nil => exact .inl rfl
  | cons c t =>
    refine .inr ⟨c, t, rfl, ?_⟩
    have := List.head?_dropWhile_not (bl4.contains ·) s
    unfold Lib.trimLeftS at h
    rw [h] at this
    simpa using this
theorem trim_len (s : List UInt8) : (Lib.trimLeftS s bl4).length ≤ s.length := (List.dropWhile_sublist _).length_le
/-- Blanks are cut off. -/
theorem ltrim_walk (s : List UInt8) (w : World) : Calls Tryz.prog 33 #[.string (bs s), .string { data := #[9, 10, 13, 32] }] w fun e w' => e = .returned (.string (bs (Lib.trimLeftS s bl4))) ∧ Below w.heap.size w w' := by
  have h := Any.strings_TrimLeft_laid Tryz.lays161 (by kernel_rfl) (bs s) ⟨#[9, 10, 13, 32]⟩ w (by decide) (fun j b hj => by
    have hm : b ∈ ([9, 10, 13, 32] : List UInt8) := List.mem_of_getElem? hj
    simp at hm
    rcases hm with rfl | rfl | rfl | rfl <;> decide)
  rw [bs_toList] at h
  exact h
theorem lcut_walk (s : List UInt8) (hs : s.length ≤ 1000000000) (w : World) (T : LxI w) : Calls Tryz.prog 35 #[.string (bs s), .string { data := #[10] }] w fun e w' => (∃ a g, e = .returned (.tuple #[.string a, .string (bs (aftL s)), .bool g])) ∧ Below w.heap.size w w' := by
  obtain ⟨⟨m, hm⟩, -⟩ := T
  have hc := Tryz.strings_Cut (bs s) ⟨#[10]⟩ m w (by rw [bs_size]; omega) hm
  rw [bs_toList, show (⟨#[10]⟩ : ByteArray).data.toList = [10] from rfl, cut_aft] at hc
  exact hc.mono fun e w' ⟨h1, n, h2⟩ => ⟨⟨_, _, h1⟩, by rw [h2]; exact lx_dr (Below.refl _ _) n⟩
theorem hasp35 (c : UInt8) (t : List UInt8) : Lib.hasPrefix (c :: t) [35] = (c == 35) := by
  show List.isPrefixOf [35] (c :: t) = _
  by_cases h : c = 35
  · rw [h]; simp [List.isPrefixOf]
  · have h1 : (35 == c) = false := by rw [beq_eq_false_iff_ne]; exact fun e => h e.symm
    have h2 : (c == 35) = false := by rw [beq_eq_false_iff_ne]; exact h
    rw [h2]; simp only [List.isPrefixOf, h1, Bool.false_and]
def LkRel (s : List UInt8) (w : World) (g : Nat) (v : Value) (wr : World) : Prop :=
  ∃ b, b.length ≤ g ∧ b.length ≤ s.length ∧ v = .string (bs b) ∧ rst s = rst b ∧ (b = [] ∨ ∃ c t, b = c :: t ∧ bl4.contains c = false) ∧ Below w.heap.size w wr
set_option maxRecDepth 100000 in
set_option maxHeartbeats 1000000 in
theorem lskip_walk (s : List UInt8) (hs : s.length ≤ 1000000000) (w : World) (T : LxI w) :
    Calls Tryz.prog 21 #[.string (bs s)] w fun e w' => e = .returned (.tuple #[.string (bs (rst s)), .int .i64 (nls (s.take (skp false s)) : Nat)]) ∧ Below w.heap.size w w' := by
  have HT := Lib.hid (fun w1 (b : Below w.heap.size w w1) => LxI.below T b)
  have H1 := Lib.hid (ltrim_walk s w)
  clear T
  go_enter Tryz.func21, Tryz.ntmps21
  go_wp2_with fail
  refine H1.out.mono ?_
  rintro e w1 ⟨rfl, b1⟩
  have H0 := Lib.hid (show LkRel s w s.length (.string (bs (Lib.trimLeftS s bl4))) w1 from ⟨_, trim_len s, trim_len s, rfl, (rst_trim s).symm, trim_head s, b1⟩)
  clear b1
  go_wp2_with fail
  go_loopg [2] s.length (fun g v wr => LkRel s w g v wr)
  case atStart => exact H0.out
  case round =>
    obtain ⟨b, hbg, hbs, rfl, hr, hh, hb⟩ := hrel
    clear H0
    have HB := Lib.hid hb
    have HR := Lib.hid hr
    have HP := Lib.hid (Tryz.strings_HasPrefix (bs b) ⟨#[35]⟩ wr)
    rw [bs_toList, show (⟨#[35]⟩ : ByteArray).data.toList = [35] from rfl] at HP
    clear hb hr
    by_cases h35 : ∃ t, b = 35 :: t
    · obtain ⟨t, rfl⟩ := h35
      rw [hasp35] at HP
      obtain ⟨G, rfl⟩ : ∃ G, gk = G + 1 := ⟨gk - 1, by simp at hbg; omega⟩
      have HC := Lib.hid (fun w1 T => lcut_walk (35 :: t) (by omega) w1 T)
      have ha : aftL (35 :: t) = aftL t := by simp [aftL]
      rw [ha] at HC
      have hal := aftL_len t
      have htl := trim_len (aftL t)
      have HN := Lib.hid (fun w1 (b1 : Below w.heap.size w w1) => (show LkRel s w G (.string (bs (Lib.trimLeftS (aftL t) bl4))) w1 from ⟨_, by simp at hbg; omega, by simp at hbs; omega, rfl, by rw [rst_trim, HR.out, rst_rem], trim_head _, b1⟩))
      have HTR := Lib.hid (fun w1 => ltrim_walk (aftL t) w1)
      clear hh ha hal htl hbg hbs
      generalize 35 :: t = S at *
      go_wp2_with fail
      refine HP.out.mono ?_
      rintro e w2 ⟨rfl, rfl⟩
      go_wp2_with fail
      refine (HC.out _ (HT.out _ HB.out)).mono ?_
      rintro e w3 ⟨⟨av, gv, rfl⟩, b3⟩
      have HB3 := Lib.hid (HB.out.trans (b3.mono HB.out.size))
      clear b3
      go_wp2_with fail
      refine (HTR.out _).mono ?_
      rintro e w4 ⟨rfl, b4⟩
      have HX := Lib.hid (HN.out _ (HB3.out.trans (b4.mono HB3.out.size)))
      clear b4
      go_wp2
      go_roundg G
      case measure => omega
      case rel => exact HX.out
    · have hp : Lib.hasPrefix b [35] = false ∧ rst b = b := by
        rcases hh with rfl | ⟨c, t, rfl, hc⟩
        · exact ⟨rfl, rfl⟩
        · have h1 : ¬ c = 35 := fun e => h35 ⟨t, by rw [e]⟩
          exact ⟨by rw [hasp35]; simpa using h1, rst_stop h1 hc⟩
      rw [hp.1] at HP
      have hrs : rst s = b := HR.out.trans hp.2
      have hsk : s.length - b.length = skp false s := by
        have := skp_le false s
        rw [← hrs]; unfold rst; rw [List.length_drop]; omega
      have HCN := Lib.hid (Tryz.strings_Count_one (bs (s.take (skp false s))) 10 wr)
      rw [bs_toList] at HCN
      have HE := Lib.hid hrs
      have hk := skp_le false s
      have hki : ((s.length : Nat) : Int) - ((b.length : Nat) : Int) = ((skp false s : Nat) : Int) := by omega
      clear hh h35 hp hrs hsk hbg
      go_wp2_with fail
      refine HP.out.mono ?_
      rintro e w2 ⟨rfl, rfl⟩
      go_wp2_with fail
      refine HCN.out.mono ?_
      rintro e w3 ⟨rfl, rfl⟩
      go_wp2
      go_ret2
      exact ⟨by rw [HE.out]; rfl, HB.out⟩
end Go.Proofs.YtaeglmgpoboihaaGreatDoor
/- Words of a file of rules: all tokens first, and then whether they are too many. Plain mathematics, of no program. -/
namespace Go.Proofs.YtaeglmgpoboihaaGreatDoor
open K
set_option linter.unusedVariables false
set_option linter.unusedSimpArgs false
namespace L14
/-- With more room nothing that was told changes. -/
theorem split_wide : ∀ (n m M ln : Nat) (s : List UInt8), s.length ≤ n → m ≤ M → (∀ l, split m ln s = .ok l → split M ln s = .ok l) ∧ (∀ e, split m ln s = .error e → e.2 = 140 → split M ln s = .error e) := by
  intro n
  induction n with
  | zero =>
    intro m M ln s hs hm
    have : s = [] := List.length_eq_zero_iff.1 (by omega)
    subst this
    have h0 : rst [] = [] := rfl
    rw [split_end h0, split_end h0]
    exact ⟨fun l h => h, fun e h => by cases h⟩
  | succ n ih =>
    intro m M ln s hs hm
    by_cases hr : rst s = []
    · rw [split_end hr, split_end hr]
      exact ⟨fun l h => h, fun e h => by cases h⟩
    · cases hx : nxt (rst s) with
      | none =>
        rw [split_no hr hx, split_no hr hx]
        exact ⟨fun l h => (by cases h), fun e h _ => h⟩
      | some z =>
        obtain ⟨⟨k, t⟩, j⟩ := z
        cases m with
        | zero =>
          rw [split_full hr hx]
          exact ⟨fun l h => (by cases h), fun e h h2 => by injection h with h; subst h; cases h2⟩
        | succ m =>
          obtain ⟨M, rfl⟩ : ∃ N, M = N + 1 := ⟨M - 1, by omega⟩
          rw [split_go hr hx, split_go hr hx]
          have hn := nxt_n hx
          have hl := rst_len s
          obtain ⟨i1, i2⟩ := ih m M (lin ln s) ((rst s).drop j) (by rw [List.length_drop]; omega) (by omega)
          cases hy : split m (lin ln s) ((rst s).drop j) with
          | ok q =>
            rw [i1 q hy]
            exact ⟨fun l h => h, fun e h => by cases h⟩
          | error e2 =>
            refine ⟨fun l h => (by cases h), fun e h h2 => ?_⟩
            injection h with h; subst h
            rw [i2 e2 hy h2]
/-- With room enough only what is none is refused. -/
theorem split_room : ∀ (n M ln : Nat) (s : List UInt8) (e : Nat × Nat), s.length ≤ n → n < M → split M ln s = .error e → e.2 = 140 := by
  intro n
  induction n with
  | zero =>
    intro M ln s e hs hM h
    have : s = [] := List.length_eq_zero_iff.1 (by omega)
    subst this
    rw [split_end (by rfl)] at h; cases h
  | succ n ih =>
    intro M ln s e hs hM h
    by_cases hr : rst s = []
    · rw [split_end hr] at h; cases h
    · cases hx : nxt (rst s) with
      | none => rw [split_no hr hx] at h; injection h with h; subst h; rfl
      | some z =>
        obtain ⟨⟨k, t⟩, j⟩ := z
        obtain ⟨M, rfl⟩ : ∃ N, M = N + 1 := ⟨M - 1, by omega⟩
        rw [split_go hr hx] at h
        have hn := nxt_n hx
        have hl := rst_len s
        cases hy : split M (lin ln s) ((rst s).drop j) with
        | ok q => rw [hy] at h; cases h
        | error e2 =>
          rw [hy] at h
          injection h with h; subst h
          exact ih M _ _ e2 (by rw [List.length_drop]; omega) (by omega) hy
/-- No more tokens than bytes. -/
theorem split_few : ∀ (n M ln : Nat) (s : List UInt8) (l : List Tk), s.length ≤ n → split M ln s = .ok l → l.length ≤ s.length ∧ ∀ x ∈ l, ln ≤ x.l ∧ x.l ≤ ln + nls s := by
  have hlin : ∀ (ln : Nat) (s : List UInt8), ln ≤ lin ln s ∧ lin ln s + nls (rst s) = ln + nls s := by
    intro ln s
    unfold lin rst
    have : nls s = nls (s.take (skp false s)) + nls (s.drop (skp false s)) := by rw [← nls_app, List.take_append_drop]
    omega
  have hdrop : ∀ (j : Nat) (s : List UInt8), nls (s.drop j) ≤ nls s := by
    intro j s
    have : nls s = nls (s.take j) + nls (s.drop j) := by rw [← nls_app, List.take_append_drop]
    omega
  intro n
  induction n with
  | zero =>
    intro M ln s l hs h
    have : s = [] := List.length_eq_zero_iff.1 (by omega)
    subst this
    rw [split_end (by rfl)] at h; injection h with h; subst h
    exact ⟨by simp, fun x hx => by cases hx⟩
  | succ n ih =>
    intro M ln s l hs h
    have h1 := hlin ln s
    by_cases hr : rst s = []
    · rw [split_end hr] at h; injection h with h; subst h
      exact ⟨by simp, fun x hx => by cases hx⟩
    · cases hx : nxt (rst s) with
      | none => rw [split_no hr hx] at h; cases h
      | some z =>
        obtain ⟨⟨k, t⟩, j⟩ := z
        cases M with
        | zero => rw [split_full hr hx] at h; cases h
        | succ M =>
          rw [split_go hr hx] at h
          have hn := nxt_n hx
          have hl := rst_len s
          cases hy : split M (lin ln s) ((rst s).drop j) with
          | error e2 => rw [hy] at h; cases h
          | ok q =>
            rw [hy] at h
            injection h with h; subst h
            obtain ⟨i1, i2⟩ := ih M _ _ q (by rw [List.length_drop]; omega) hy
            rw [List.length_drop] at i1
            have := hdrop j (rst s)
            refine ⟨by simp only [List.length_cons]; omega, fun x hx => ?_⟩
            rcases List.mem_cons.1 hx with rfl | hx
            · show ln ≤ lin ln s ∧ lin ln s ≤ ln + nls s; omega
            · have := i2 x hx; omega
/-- No token. -/
def noT1 : Tk := ⟨0, [], 0⟩
/-- All tokens, or the line of what is none. -/
def all14 (s : List UInt8) : Except (Nat × Nat) (List Tk) := split (s.length + 1) 1 s
def pgE (s : List UInt8) : Nat := if 65536 < s.length then 2 else match all14 s with | .error e => 140 | .ok l => if 4096 < l.length then 2 else 0
def pgN (s : List UInt8) : Nat := if 65536 < s.length then 0 else match all14 s with | .error e => e.1 | .ok l => if 4096 < l.length then (l.getD 4096 noT1).l else 0
def pgL (s : List UInt8) : List Tk := if 65536 < s.length then [] else match all14 s with | .error _ => [] | .ok l => if 4096 < l.length then [] else l
theorem pg_long {s : List UInt8} (h : 65536 < s.length) : pgE s = 2 ∧ pgN s = 0 ∧ pgL s = [] := by unfold pgE pgN pgL; rw [if_pos h, if_pos h, if_pos h]; exact ⟨rfl, rfl, rfl⟩
theorem pg_er {s : List UInt8} (hs : s.length ≤ 65536) {e : Nat × Nat} (h : all14 s = .error e) : pgE s = 140 ∧ pgN s = e.1 ∧ pgL s = [] := by
  have h0 : ¬ 65536 < s.length := by omega
  unfold pgE pgN pgL; rw [if_neg h0, if_neg h0, if_neg h0, h]; exact ⟨rfl, rfl, rfl⟩
theorem pg_many {s : List UInt8} (hs : s.length ≤ 65536) {l : List Tk} (h : all14 s = .ok l) (hl : 4096 < l.length) : pgE s = 2 ∧ pgN s = (l.getD 4096 noT1).l ∧ pgL s = [] := by
  have h0 : ¬ 65536 < s.length := by omega
  unfold pgE pgN pgL; rw [if_neg h0, if_neg h0, if_neg h0, h]
  simp only
  rw [if_pos hl, if_pos hl, if_pos hl]; exact ⟨rfl, rfl, rfl⟩
theorem pg_all {s : List UInt8} (hs : s.length ≤ 65536) {l : List Tk} (h : all14 s = .ok l) (hl : l.length ≤ 4096) : pgE s = 0 ∧ pgN s = 0 ∧ pgL s = l := by
  have h0 : ¬ 65536 < s.length := by omega
  have h1 : ¬ 4096 < l.length := by omega
  unfold pgE pgN pgL; rw [if_neg h0, if_neg h0, if_neg h0, h]
  simp only
  rw [if_neg h1, if_neg h1, if_neg h1]; exact ⟨rfl, rfl, rfl⟩
theorem all_of {s : List UInt8} {l : List Tk} (h : split 4096 1 s = .ok l) : all14 s = .ok l := by
  unfold all14
  by_cases hm : 4096 ≤ s.length + 1
  · exact (split_wide s.length 4096 (s.length + 1) 1 s (Nat.le_refl _) hm).1 l h
  · obtain hx | hx : (∃ e, split (s.length + 1) 1 s = .error e) ∨ ∃ q, split (s.length + 1) 1 s = .ok q := by cases split (s.length + 1) 1 s <;> simp
    · obtain ⟨e, he⟩ := hx
      have h2 := split_room s.length (s.length + 1) 1 s e (Nat.le_refl _) (by omega) he
      have := (split_wide s.length (s.length + 1) 4096 1 s (Nat.le_refl _) (by omega)).2 e he h2
      rw [h] at this; cases this
    · obtain ⟨q, hq⟩ := hx
      have := (split_wide s.length (s.length + 1) 4096 1 s (Nat.le_refl _) (by omega)).1 q hq
      rw [h] at this; injection this with this; rw [hq, this]
theorem pg_ok {s : List UInt8} {l : List Tk} (hs : s.length ≤ 65536) (h : split 4096 1 s = .ok l) : pgE s = 0 ∧ pgN s = 0 ∧ pgL s = l :=
  pg_all hs (all_of h) (split_is s.length 4096 1 s l (Nat.le_refl _) h).2
/-- Where it is wrong: a line that it has. -/
theorem pgE_er {s : List UInt8} (h : pgE s ≠ 0) : pgL s = [] ∧ (s.length ≤ 65536 → 0 < pgN s ∧ pgN s ≤ 1 + nls s) := by
  by_cases hs : s.length ≤ 65536
  · cases hx : all14 s with
    | error e =>
      obtain ⟨_, h2, h3⟩ := pg_er hs hx
      have := split_line s.length (s.length + 1) 1 s e (Nat.le_refl _) hx
      exact ⟨h3, fun _ => by rw [h2]; omega⟩
    | ok l =>
      by_cases hl : 4096 < l.length
      · obtain ⟨_, h2, h3⟩ := pg_many hs hx hl
        have := (split_few s.length (s.length + 1) 1 s l (Nat.le_refl _) hx).2 (l.getD 4096 noT1) (by
          rw [List.getD_eq_getElem?_getD, List.getElem?_eq_getElem hl]; exact List.getElem_mem hl)
        exact ⟨h3, fun _ => by rw [h2]; omega⟩
      · exact absurd (pg_all hs hx (by omega)).1 h
  · exact ⟨(pg_long (by omega)).2.2, fun h => by omega⟩
end L14
end Go.Proofs.YtaeglmgpoboihaaGreatDoor
/- The document's Quote, walked (gen_lexh.py writes this). -/
namespace Go.Proofs.YtaeglmgpoboihaaGreatDoor
open Go.ChangeShapes Go.WideShapes Go.ChangeAt Go.RowKit K L14
set_option linter.unusedVariables false

theorem ownY_new (w : World) (B : Nat) (hb : B ≤ w.heap.size) (b : UInt8) : OwnY (w.alloc (.cells #[.int .u8 (b.toNat : Nat)] 5)) B (.slice (some ⟨w.heap.size, 0, none⟩) 1 1) [b] :=
  ⟨by simp [byts], .inr ⟨w.heap.size, 1, #[.int .u8 (b.toNat : Nat)], rfl, hb, rowNew w _, Nat.le_refl _, by decide, rfl, rfl⟩⟩
/-- The rounds. -/
def QuRel (s : List UInt8) (w : World) (g : Nat) (v2 v3 : Value) (wr : World) : Prop :=
  ∃ i : Nat, i + g = s.length ∧ v3 = .int .i64 (i : Nat) ∧ OwnY wr w.heap.size v2 (34 :: qbd (s.take i)) ∧ Below w.heap.size w wr
theorem qbd_next (s : List UInt8) (i : Nat) (h : i < s.length) (c : UInt8) (hc : s[i] = c) {y : List UInt8} (hy : qb c = y) : (34 :: qbd (s.take i)) ++ y = 34 :: qbd (s.take (i + 1)) := by
  rw [List.take_succ_eq_append_getElem h, qbd_app, hc, ← hy]
  simp [qbd]
theorem qbd_take (s : List UInt8) (i : Nat) : (34 :: qbd (s.take i)).length ≤ 1 + 4 * s.length := by
  have h1 := (qbd_len (s.take i)).2
  have h2 : (s.take i).length ≤ s.length := by rw [List.length_take]; omega
  rw [List.length_cons]; omega
theorem qurel_next {s : List UInt8} {w w' : World} {v : Value} {i g : Nat} {y : List UInt8} {z : Int} (hi : i + (g + 1) = s.length) (hl : i < s.length) {c : UInt8} (hc : s[i] = c) (hy : qb c = y) (hz : z = ((i : Nat) : Int) + 1) (ho : OwnY w' w.heap.size v ((34 :: qbd (s.take i)) ++ y)) (hb : Below w.heap.size w w') : QuRel s w g v (.int .i64 z) w' := by
  rw [qbd_next s i hl c hc hy] at ho
  exact ⟨i + 1, by omega, by rw [hz]; rfl, ho, hb⟩
/-- Some bytes more, in a region walked by hand. -/
theorem appYo {o : Oper} {a : Act} {K : Act → World → Prop} {Q : Exit → Act → World → Prop} {W : World} {s x : Operand} (ho : o.op = .call { callee := .builtin .append, args := #[s, x], argTypes := #[119, 119] })
    {B : Nat} {v : Value} {l ys : List UInt8} {cs : Array Value} (hs : a.eval s = v) (hO : OwnY W B v l) {m : Nat} (hx : a.eval x = .slice (some ⟨W.heap.size, 0, none⟩) m m) (hcs : cs.toList = byts ys) (hm : m = ys.length) (hn : l.length + ys.length ≤ 100000000) (hB : B ≤ W.heap.size)
    (h : ∀ v' w', OwnY w' B v' (l ++ ys) → (∀ y, Below B y W → Below B y w') → K (a.put o.dst v') w') : o.wp Tryz.prog a (W.alloc (.cells cs 5)) K Q := by
  obtain ⟨i0, hi, hz0, hz1, hz2⟩ := info_of yinfo
  subst hm
  have hC := rowNew W (.cells cs 5)
  have hsz : (W.alloc (.cells cs 5)).heap.size = W.heap.size + 1 := by simp
  refine wp_append_own _ s x 119 ho B 5 i0 (.int .u8 0) 1 1 Tryz.underlying119 hi hz0 hz1 hz2 rfl (by decide) v l.length (byts l) hs (World.ownsRow.alloc hO _) ⟨W.heap.size, 0, none⟩ ys.length ys.length (byts ys) hx (by rw [byts_len, Nat.mul_one]) ?_ ?_ (by unfold maxLen; omega) (by omega) (by rw [hsz]; omega) ?_
  · intro j u hj
    have hc := cellRow hC j
    have ha : (⟨W.heap.size, 0, none⟩ : Addr).add j = ⟨W.heap.size, j, none⟩ := by
      by_cases h : j = 0
      · subst h; simp [Addr.add]
      · simp [Addr.add, h]
    rw [ha, hc, ← Array.getElem?_toList, hcs]
    exact hj
  · intro u hu
    obtain ⟨b, _, rfl⟩ := List.mem_map.1 hu
    rfl
  · intro v' w' hown hg _
    refine h v' w' ?_ fun y b => ?_
    · unfold OwnY
      rw [List.length_append, byts_app]
      exact hown
    · exact (b.alloc hB _).grown hg (by rw [hsz]; omega) (fun k hk => (World.ownsRow.lt hO k hk).1)
theorem hx_index (d : Nat) (h : d < 16) : ∀ w, (Instr.index 9 (.string { data := #[48, 49, 50, 51, 52, 53, 54, 55, 56, 57, 97, 98, 99, 100, 101, 102] }) (.int .u8 (d : Nat))).run Tryz.prog w = .ok (.int .u8 ((hxd d).toNat : Nat)) w := by
  intro w
  rw [run_index_string w 9 _ .u8 _ Tryz.underlying9]
  obtain rfl | rfl | rfl | rfl | rfl | rfl | rfl | rfl | rfl | rfl | rfl | rfl | rfl | rfl | rfl | rfl : d = 0 ∨ d = 1 ∨ d = 2 ∨ d = 3 ∨ d = 4 ∨ d = 5 ∨ d = 6 ∨ d = 7 ∨ d = 8 ∨ d = 9 ∨ d = 10 ∨ d = 11 ∨ d = 12 ∨ d = 13 ∨ d = 14 ∨ d = 15 := by omega
  all_goals rfl
end Go.Proofs.YtaeglmgpoboihaaGreatDoor
