/- Texts on the program and on the document, joined: Book, BerH, BerX, BerC. -/
import Derived.Test.YtgjmnlgjdgjdbaaDoorRows
import Derived.Test.YtgjmnlgjdgjdbaaDoorMa01
import Derived.ProofKit
import Derived.Test.YtgjmnlgjdgjdbaaDoorMa23
import Derived.Test.YtgjmnlgjdgjdbaaDoorMa14
import Derived.IntWalk
import Derived.Deep.LoopGhost
import Derived.Deep.DeepCutAuto
import Derived.Deep.CutBlock
import Derived.Test.YtgjmnlgjdgjdbaaDoorMa06
import Derived.Test.YtgjmnlgjdgjdbaaDoorMa22
import Derived.Test.YtgjmnlgjdgjdbaaDoorMa13
/- gongbook: Below, Cut. -/
namespace Go.Proofs.YtgjmnlgjdgjdbaaDoor
open Go.ChangeShapes Go.WideShapes Go.ChangeAt Go.RowKit K
set_option linter.unusedVariables false

/-- What Below answers. -/
def belowN (x n : Int) : Int := (x.tmod n + n) % n
theorem tmod_bounds (x n : Int) (hn : 0 < n) : -n < x.tmod n ∧ x.tmod n < n := by
  have h1 := Int.lt_tmod_of_pos x hn
  have h2 := Int.tmod_lt_of_pos x hn
  exact ⟨h1, h2⟩
theorem belowN_bounds (x n : Int) (hn : 0 < n) : 0 ≤ belowN x n ∧ belowN x n < n := by
  unfold belowN
  exact ⟨Int.emod_nonneg _ (by omega), Int.emod_lt_of_pos _ hn⟩
end Go.Proofs.YtgjmnlgjdgjdbaaDoor
/- gonglaw05.grown, walked: on whatever Wrap answers as it should. -/
namespace Go.Proofs.YtgjmnlgjdgjdbaaDoor
open Go.ChangeShapes Go.WideShapes Go.ChangeAt Go.RowKit K P1 B5
set_option linter.unusedVariables false

def sst (st : List Fo) : List (List UInt8) := st.reverse.map Fo.enc
theorem sst_cons (t : Fo) (r : List Fo) : sst (t :: r) = sst r ++ [t.enc] := by simp [sst]
theorem sst_len (st : List Fo) : (sst st).length = st.length := by simp [sst]
theorem get_end (a : List (List UInt8)) (x : List UInt8) (b : List (List UInt8)) : (a ++ x :: b).getD a.length [] = x := by simp [List.getD]
theorem set_end (a : List (List UInt8)) (x y : List UInt8) : (a ++ [x]).set a.length y = a ++ [y] := by simp
theorem tot_head {t : Fo} {r : List Fo} : t.enc.length + 6 ≤ tot (t :: r) := by simp only [tot]; omega
theorem tot_two {t p : Fo} {r : List Fo} : t.enc.length + p.enc.length + 12 ≤ tot (t :: p :: r) := by simp only [tot]; omega

theorem wf_i64 {t : Int} (wt : (Lit.int .i64 t).wf = true) : -9223372036854775808 ≤ t ∧ t ≤ 9223372036854775807 := by
  simp [Lit.wf, IntKind.min, IntKind.max, IntKind.bits, IntKind.signed] at wt; omega
/-- What Wrap is known to answer. -/
def WrapOk (I : World → Prop) : Prop := (∀ a b, I a → Below a.heap.size a b → I b) ∧ ∀ (t : Nat) (b : List UInt8) (w : World), isTag t = true → t < 256 → b.length ≤ 16777216 → I w →
  Calls Tryd.prog 34 #[.int .i64 t, .string (bs b)] w fun e w' => e = .returned (.tuple #[.string (bs (put t b)), .int .i64 0]) ∧ Below w.heap.size w w'
theorem str_info : (Tryd.prog.info? 9).map (fun i => (i.zero, i.size, i.bytes)) = some (some (.string .empty), 1, 16) := by kernel_rfl

def GwRel (w : World) (G : Nat → List Fo) (I g : Nat) (v3 v4 : Value) (wr : World) : Prop :=
  ∃ i gb cap, i + g = I ∧ v3 = .slice (some ⟨gb, 0, none⟩) (G i).length cap ∧ v4 = .int .i64 (i : Nat) ∧ StkAt wr w.heap.size 9 gb cap (sst (G i)) ∧ Below w.heap.size w wr
def GcRel (w : World) (F : Fo) (gb cap g : Nat) (v3 : Value) (wr : World) : Prop :=
  ∃ t q, gcl t q = F ∧ q.length = g ∧ g ≤ 20 ∧ v3 = .slice (some ⟨gb, 0, none⟩) (g + 1) cap ∧ tot (t :: q) ≤ 20000 ∧ StkAt wr w.heap.size 9 gb cap (sst (t :: q)) ∧ Below w.heap.size w wr
theorem grow_enc (t : Fo) (q : List Fo) : (grow (t :: q)).enc = put 48 (gcl t q).enc := by
  show put 48 (gcl t q).enc ++ [] = _; rw [List.append_nil]
end Go.Proofs.YtgjmnlgjdgjdbaaDoor
/- The laws of ber, walked on calls that keep their word. -/
namespace Go.Proofs.YtgjmnlgjdgjdbaaDoor
open Go.ChangeShapes Go.WideShapes Go.ChangeAt Go.RowKit K P1 B5
set_option linter.unusedVariables false

theorem wr_yes (t : Nat) (b : List UInt8) (ht : t < 256) (h2 : isTag t = true) (hb : b.length ≤ 16777216) : wrT (t : Int) b = put t b ∧ wrE (t : Int) b = 0 := by
  have hi : isTi (t : Int) = true := by
    unfold isTi; rw [decide_eq_true (by omega), decide_eq_true (by omega), Int.toNat_natCast, h2]; rfl
  unfold wrT wrE
  rw [hi, if_pos rfl, if_pos rfl, if_neg (by omega), if_neg (by omega)]
  exact ⟨by simp, rfl⟩
theorem canon_good {l : List UInt8} {f : Fo} (h : wh l = .ok f) : whE l = 0 ∧ whD l = f.dep ∧ whC l = f.enc ∧ f.enc.length ≤ l.length ∧ whE f.enc = 0 ∧ whD f.enc = f.dep ∧ whC f.enc = f.enc ∧ f.dep ≤ 32 := by
  obtain ⟨a1, a2, a3⟩ := wh_ok h
  obtain ⟨c1, c2, c3, c4⟩ := wh_again h
  obtain ⟨d1, d2, d3⟩ := wh_ok c1
  exact ⟨a1, a2, a3, c2, d1, d2, d3, c4⟩
theorem prs_codes : ∀ (n a : Nat) (l : List UInt8) (e : Nat), l.length ≤ n → prs a l = .error e → e = 50 ∨ e = 51
  | 0, a, l, e, hn, h => by
    obtain rfl : l = [] := List.length_eq_zero_iff.1 (by omega)
    rw [prs_nil] at h; cases h
  | n + 1, a, l, e, hn, h => by
    by_cases he : l = []
    · subst he; rw [prs_nil] at h; cases h
    · rw [prs_step he] at h
      by_cases hx : nxOk l = true
      · rw [if_neg (by rw [hx]; simp)] at h
        obtain ⟨_, _, _, _, h5⟩ := nx_of hx
        by_cases ha : 32 < a
        · rw [if_pos ha] at h; cases h; exact .inr rfl
        · rw [if_neg ha] at h
          by_cases hm : isMade (nxT l) = true
          · rw [if_pos hm] at h
            cases h1 : prs (a + 1) (nxB l) with
            | error e1 => rw [h1] at h; cases h; exact prs_codes n _ _ _ (by omega) h1
            | ok cs =>
              rw [h1] at h
              cases h2 : prs a (nxR l) with
              | error e2 => rw [h2] at h; cases h; exact prs_codes n _ _ _ (by omega) h2
              | ok r => rw [h2] at h; cases h
          · rw [if_neg hm] at h
            cases h2 : prs a (nxR l) with
            | error e2 => rw [h2] at h; cases h; exact prs_codes n _ _ _ (by omega) h2
            | ok r => rw [h2] at h; cases h
      · rw [Bool.not_eq_true] at hx
        rw [if_pos hx] at h; cases h; exact .inl rfl
theorem wh_codes {l : List UInt8} {e : Nat} (h : wh l = .error e) : e = 50 ∨ e = 51 := by
  unfold wh at h
  by_cases hx : nxOk l = true
  · rw [if_neg (by rw [hx]; simp)] at h
    unfold hd1 at h
    by_cases hm : isMade (nxT l) = true
    · rw [if_pos hm] at h
      cases h1 : prs 2 (nxB l) with
      | error e1 => rw [h1] at h; cases h; exact prs_codes _ _ _ _ (Nat.le_refl _) h1
      | ok cs =>
        rw [h1] at h
        by_cases hr : nxR l = []
        · simp [hr] at h
        · simp [hr] at h; exact .inl h.symm
    · rw [if_neg hm] at h
      by_cases hr : nxR l = []
      · simp [hr] at h
      · simp [hr] at h; exact .inl h.symm
  · rw [Bool.not_eq_true] at hx
    rw [if_pos hx] at h; cases h; exact .inl rfl
theorem tower_zero (b : List UInt8) : (tower b 0).enc = put 4 b := by show put 4 b ++ [] = _; rw [List.append_nil]
def TwRel (w : World) (b : List UInt8) (M g : Nat) (v5 v6 v22 : Value) (wr : World) : Prop :=
  ∃ i, i + g = M ∧ v5 = .string (bs (tower b i).enc) ∧ v6 = .int .i64 0 ∧ v22 = .int .i64 (i : Nat) ∧ Below w.heap.size w wr
end Go.Proofs.YtgjmnlgjdgjdbaaDoor
/- ber.Parts, walked; what it tells, plain. -/
namespace Go.Proofs.YtgjmnlgjdgjdbaaDoor
open Go.ChangeShapes Go.WideShapes Go.ChangeAt Go.RowKit K P1 B5
set_option linter.unusedVariables false

theorem nxQ_ok {s : List UInt8} (h : nxOk s = true) : nxQ s = (nxT s, nxB s, nxR s) ∧ nxE s = 0 := by unfold nxQ nxE; rw [h]; exact ⟨rfl, rfl⟩
theorem nxQ_no {s : List UInt8} (h : nxOk s = false) : nxQ s = (0, [], []) ∧ nxE s = 50 := by unfold nxQ nxE; rw [h]; exact ⟨rfl, rfl⟩
end Go.Proofs.YtgjmnlgjdgjdbaaDoor
