/- Texts on the program and on the document, joined: Stk, Book, BerH, BerX. -/
import Derived.Test.YtdgnhcbhbpffmaaGreatDoorMa01
import Derived.Below
import Derived.Laws.OwnMore
import Derived.Laws.AppendOwn
import Derived.Test.YtdgnhcbhbpffmaaGreatDoorRows
import Derived.ProofKit
import Derived.Test.YtdgnhcbhbpffmaaGreatDoorMa25
import Derived.Test.YtdgnhcbhbpffmaaGreatDoorMa13
import Derived.IntWalk
import Derived.Deep.LoopGhost
import Derived.Deep.DeepCutAuto
import Derived.Deep.CutBlock
import Derived.Test.YtdgnhcbhbpffmaaGreatDoorMa06
/- A list of texts that a call made itself, in a block that is known: cells, a shorter slice of it, a member that is turned. Of no program. -/
namespace Go.Proofs.YtdgnhcbhbpffmaaGreatDoor
open Go.RowKit
namespace K

def strs (ss : List (List UInt8)) : List Value := ss.map fun s => Value.string (bs s)
theorem strs_len (ss : List (List UInt8)) : (strs ss).length = ss.length := by simp [strs]
theorem strs_app (a b : List (List UInt8)) : strs (a ++ b) = strs a ++ strs b := by simp [strs]
/-- Block g, behind B, begins with these texts; T is the type of its elements. -/
def StkAt (w : World) (B : Nat) (T : TypeId) (g cap : Nat) (ss : List (List UInt8)) : Prop :=
  B ≤ g ∧ ss.length ≤ cap ∧ cap ≤ maxLen ∧ ∃ C, w.heap[g]? = some (.cells C T (0, 0)) ∧ C.size = cap ∧ C.toList.take ss.length = strs ss
section
variable {w w' : World} {B : Nat} {T : TypeId} {g cap : Nat} {ss : List (List UInt8)}
theorem StkAt.lt (h : StkAt w B T g cap ss) : g < w.heap.size := by
  obtain ⟨_, _, _, C, hC, _⟩ := h
  exact lt_of_block hC
theorem StkAt.cell (h : StkAt w B T g cap ss) (i : Nat) (hi : i < ss.length) : w.cell? ⟨g, i, none⟩ = some (.string (bs (ss.getD i []))) := by
  obtain ⟨_, _, _, C, hC, _, ht⟩ := h
  rw [cellRow hC, ← Array.getElem?_toList]
  have h1 := congrArg (fun x : List Value => x[i]?) ht
  rw [List.getElem?_take_of_lt hi] at h1
  rw [h1]
  simp [strs, List.getD, List.getElem?_eq_getElem hi]
theorem StkAt.free (h : StkAt w B T g cap ss) (i : Nat) : w.frozen? ⟨g, i, none⟩ = false := by
  obtain ⟨_, _, _, C, hC, _⟩ := h
  exact freeRow hC i
theorem StkAt.below (h : StkAt w B T g cap ss) (k : Below w.heap.size w w') : StkAt w' B T g cap ss := by
  obtain ⟨h1, h2, h3, C, hC, h4⟩ := h
  exact ⟨h1, h2, h3, C, (k.block g (lt_of_block hC)).trans hC, h4⟩
theorem StkAt.cut {a b : List (List UInt8)} (h : StkAt w B T g cap (a ++ b)) : StkAt w B T g cap a := by
  obtain ⟨h1, h2, h3, C, hC, h4, h5⟩ := h
  rw [List.length_append] at h2
  refine ⟨h1, by omega, h3, C, hC, h4, ?_⟩
  have h6 := congrArg (List.take a.length) h5
  rw [List.take_take, List.length_append, Nat.min_eq_left (by omega), strs_app, List.take_append_of_le_length (by rw [strs_len]; omega), List.take_of_length_le (l := strs a) (by rw [strs_len]; omega)] at h6
  exact h6
theorem StkAt.set (h : StkAt w B T g cap ss) (i : Nat) (s : List UInt8) : StkAt (w.setCell ⟨g, i, none⟩ (.string (bs s))) B T g cap (ss.set i s) := by
  obtain ⟨h1, h2, h3, C, hC, h4, h5⟩ := h
  refine ⟨h1, by rw [List.length_set]; exact h2, h3, _, rowSet hC i _, by rw [Array.size_setIfInBounds]; exact h4, ?_⟩
  rw [Array.toList_setIfInBounds, List.length_set, List.take_set, h5]
  unfold strs
  rw [List.map_set]
theorem StkAt.own (h : StkAt w B T g cap ss) : w.ownsRow B T 1 (.slice (some ⟨g, 0, none⟩) ss.length cap) ss.length (strs ss) := by
  obtain ⟨h1, h2, h3, C, hC, h4, h5⟩ := h
  exact ⟨by rw [strs_len]; omega, .inr ⟨g, cap, C, rfl, h1, hC, h2, h3, by omega, by rw [Nat.mul_one]; exact h5⟩⟩
theorem StkAt.ofOwn {v : Value} {n : Nat} (hn : n = ss.length) (h0 : 0 < ss.length) (h : w.ownsRow B T 1 v n (strs ss)) : ∃ g cap, v = .slice (some ⟨g, 0, none⟩) ss.length cap ∧ StkAt w B T g cap ss := by
  subst hn
  rcases h.2 with ⟨_, hz⟩ | ⟨g, cap, C, hv, h1, hC, h2, h3, h4, h5⟩
  · omega
  · exact ⟨g, cap, hv, h1, h2, h3, C, hC, by omega, by rw [Nat.mul_one] at h5; exact h5⟩
theorem StkAt.new (w : World) (B : Nat) (T : TypeId) (s : List UInt8) (hB : B ≤ w.heap.size) : StkAt (w.alloc (.cells #[.string (bs s)] T)) B T w.heap.size 1 [s] :=
  ⟨hB, Nat.le_refl _, by unfold maxLen; omega, _, rowNew w _, rfl, rfl⟩
end
end K
end Go.Proofs.YtdgnhcbhbpffmaaGreatDoor
/- gongbook: Below, Cut. -/
namespace Go.Proofs.YtdgnhcbhbpffmaaGreatDoor
open Go.ChangeShapes Go.WideShapes Go.ChangeAt Go.RowKit K
set_option linter.unusedVariables false

/-- What Below answers. -/
def belowN (x n : Int) : Int := (x.tmod n + n) % n
theorem tmod_bounds (x n : Int) (hn : 0 < n) : -n < x.tmod n ∧ x.tmod n < n := by
  have h1 := Int.lt_tmod_of_pos x hn
  have h2 := Int.tmod_lt_of_pos x hn
  exact ⟨h1, h2⟩
theorem belowN_bounds (x n : Int) (hn : 0 < n) : 0 ≤ belowN x n ∧ belowN x n < n := by
  unfold belowN
  exact ⟨Int.emod_nonneg _ (by omega), Int.emod_lt_of_pos _ hn⟩
theorem below_walk (x n : Int) (h0 : -9223372036854775808 ≤ x) (h1 : x ≤ 9223372036854775807) (hn : 0 < n) (hn2 : n ≤ 4611686018427387904) (w : World) :
    Calls Tryz.prog 22 #[.int .i64 x, .int .i64 n] w fun e w' => e = .returned (.int .i64 (belowN x n)) ∧ w = w' := by
  have hb := tmod_bounds x n hn
  have hnz : (n == 0) = false := by rw [beq_eq_false_iff_ne]; omega
  obtain ⟨hb1, hb2⟩ := hb
  go_enter Tryz.func22, Tryz.ntmps22
  go_wp2
  go_ret
  exact ⟨rfl, rfl⟩

end Go.Proofs.YtdgnhcbhbpffmaaGreatDoor
/- gonglaw05.grown, walked: on whatever Wrap answers as it should. -/
namespace Go.Proofs.YtdgnhcbhbpffmaaGreatDoor
open Go.ChangeShapes Go.WideShapes Go.ChangeAt Go.RowKit K P1 B5
set_option linter.unusedVariables false

def sst (st : List Fo) : List (List UInt8) := st.reverse.map Fo.enc
theorem sst_cons (t : Fo) (r : List Fo) : sst (t :: r) = sst r ++ [t.enc] := by simp [sst]
theorem sst_len (st : List Fo) : (sst st).length = st.length := by simp [sst]
theorem get_end (a : List (List UInt8)) (x : List UInt8) (b : List (List UInt8)) : (a ++ x :: b).getD a.length [] = x := by simp [List.getD]
theorem set_end (a : List (List UInt8)) (x y : List UInt8) : (a ++ [x]).set a.length y = a ++ [y] := by simp
theorem tot_head {t : Fo} {r : List Fo} : t.enc.length + 6 ≤ tot (t :: r) := by simp only [tot]; omega
theorem tot_two {t p : Fo} {r : List Fo} : t.enc.length + p.enc.length + 12 ≤ tot (t :: p :: r) := by simp only [tot]; omega

theorem wf_i64 {t : Int} (wt : (Lit.int .i64 t).wf = true) : -9223372036854775808 ≤ t ∧ t ≤ 9223372036854775807 := by
  simp [Lit.wf, IntKind.min, IntKind.max, IntKind.bits, IntKind.signed] at wt; omega
/-- What Wrap is known to answer. -/
def WrapOk (I : World → Prop) : Prop := (∀ a b, I a → Below a.heap.size a b → I b) ∧ ∀ (t : Nat) (b : List UInt8) (w : World), isTag t = true → t < 256 → b.length ≤ 16777216 → I w →
  Calls Tryz.prog 80 #[.int .i64 t, .string (bs b)] w fun e w' => e = .returned (.tuple #[.string (bs (put t b)), .int .i64 0]) ∧ Below w.heap.size w w'
theorem str_info : (Tryz.prog.info? 9).map (fun i => (i.zero, i.size, i.bytes)) = some (some (.string .empty), 1, 16) := by kernel_rfl

def GwRel (w : World) (G : Nat → List Fo) (I g : Nat) (v3 v4 : Value) (wr : World) : Prop :=
  ∃ i gb cap, i + g = I ∧ v3 = .slice (some ⟨gb, 0, none⟩) (G i).length cap ∧ v4 = .int .i64 (i : Nat) ∧ StkAt wr w.heap.size 9 gb cap (sst (G i)) ∧ Below w.heap.size w wr
def GcRel (w : World) (F : Fo) (gb cap g : Nat) (v3 : Value) (wr : World) : Prop :=
  ∃ t q, gcl t q = F ∧ q.length = g ∧ g ≤ 20 ∧ v3 = .slice (some ⟨gb, 0, none⟩) (g + 1) cap ∧ tot (t :: q) ≤ 20000 ∧ StkAt wr w.heap.size 9 gb cap (sst (t :: q)) ∧ Below w.heap.size w wr
theorem grow_enc (t : Fo) (q : List Fo) : (grow (t :: q)).enc = put 48 (gcl t q).enc := by
  show put 48 (gcl t q).enc ++ [] = _; rw [List.append_nil]
end Go.Proofs.YtdgnhcbhbpffmaaGreatDoor
/- The laws of ber, walked on calls that keep their word. -/
namespace Go.Proofs.YtdgnhcbhbpffmaaGreatDoor
open Go.ChangeShapes Go.WideShapes Go.ChangeAt Go.RowKit K P1 B5
set_option linter.unusedVariables false

theorem wr_yes (t : Nat) (b : List UInt8) (ht : t < 256) (h2 : isTag t = true) (hb : b.length ≤ 16777216) : wrT (t : Int) b = put t b ∧ wrE (t : Int) b = 0 := by
  have hi : isTi (t : Int) = true := by
    unfold isTi; rw [decide_eq_true (by omega), decide_eq_true (by omega), Int.toNat_natCast, h2]; rfl
  unfold wrT wrE
  rw [hi, if_pos rfl, if_pos rfl, if_neg (by omega), if_neg (by omega)]
  exact ⟨by simp, rfl⟩
theorem canon_good {l : List UInt8} {f : Fo} (h : wh l = .ok f) : whE l = 0 ∧ whD l = f.dep ∧ whC l = f.enc ∧ f.enc.length ≤ l.length ∧ whE f.enc = 0 ∧ whD f.enc = f.dep ∧ whC f.enc = f.enc ∧ f.dep ≤ 32 := by
  obtain ⟨a1, a2, a3⟩ := wh_ok h
  obtain ⟨c1, c2, c3, c4⟩ := wh_again h
  obtain ⟨d1, d2, d3⟩ := wh_ok c1
  exact ⟨a1, a2, a3, c2, d1, d2, d3, c4⟩
theorem prs_codes : ∀ (n a : Nat) (l : List UInt8) (e : Nat), l.length ≤ n → prs a l = .error e → e = 50 ∨ e = 51
  | 0, a, l, e, hn, h => by
    obtain rfl : l = [] := List.length_eq_zero_iff.1 (by omega)
    rw [prs_nil] at h; cases h
  | n + 1, a, l, e, hn, h => by
    by_cases he : l = []
    · subst he; rw [prs_nil] at h; cases h
    · rw [prs_step he] at h
      by_cases hx : nxOk l = true
      · rw [if_neg (by rw [hx]; simp)] at h
        obtain ⟨_, _, _, _, h5⟩ := nx_of hx
        by_cases ha : 32 < a
        · rw [if_pos ha] at h; cases h; exact .inr rfl
        · rw [if_neg ha] at h
          by_cases hm : isMade (nxT l) = true
          · rw [if_pos hm] at h
            cases h1 : prs (a + 1) (nxB l) with
            | error e1 => rw [h1] at h; cases h; exact prs_codes n _ _ _ (by omega) h1
            | ok cs =>
              rw [h1] at h
              cases h2 : prs a (nxR l) with
              | error e2 => rw [h2] at h; cases h; exact prs_codes n _ _ _ (by omega) h2
              | ok r => rw [h2] at h; cases h
          · rw [if_neg hm] at h
            cases h2 : prs a (nxR l) with
            | error e2 => rw [h2] at h; cases h; exact prs_codes n _ _ _ (by omega) h2
            | ok r => rw [h2] at h; cases h
      · rw [Bool.not_eq_true] at hx
        rw [if_pos hx] at h; cases h; exact .inl rfl
theorem wh_codes {l : List UInt8} {e : Nat} (h : wh l = .error e) : e = 50 ∨ e = 51 := by
  unfold wh at h
  by_cases hx : nxOk l = true
  · rw [if_neg (by rw [hx]; simp)] at h
    unfold hd1 at h
    by_cases hm : isMade (nxT l) = true
    · rw [if_pos hm] at h
      cases h1 : prs 2 (nxB l) with
      | error e1 => rw [h1] at h; cases h; exact prs_codes _ _ _ _ (Nat.le_refl _) h1
      | ok cs =>
        rw [h1] at h
        by_cases hr : nxR l = []
        · simp [hr] at h
        · simp [hr] at h; exact .inl h.symm
    · rw [if_neg hm] at h
      by_cases hr : nxR l = []
      · simp [hr] at h
      · simp [hr] at h; exact .inl h.symm
  · rw [Bool.not_eq_true] at hx
    rw [if_pos hx] at h; cases h; exact .inl rfl
theorem tower_zero (b : List UInt8) : (tower b 0).enc = put 4 b := by show put 4 b ++ [] = _; rw [List.append_nil]
def TwRel (w : World) (b : List UInt8) (M g : Nat) (v5 v6 v22 : Value) (wr : World) : Prop :=
  ∃ i, i + g = M ∧ v5 = .string (bs (tower b i).enc) ∧ v6 = .int .i64 0 ∧ v22 = .int .i64 (i : Nat) ∧ Below w.heap.size w wr
end Go.Proofs.YtdgnhcbhbpffmaaGreatDoor
