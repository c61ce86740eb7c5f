/- Texts on the program and on the document, joined: ValJ, BerG, Stk, Book, BerH, BerX. -/
import Derived.Test.YtmdibafofdghgaaGreatDoorMa16
import Derived.Test.YtmdibafofdghgaaGreatDoorMa19
import Derived.Test.YtmdibafofdghgaaGreatDoorMa07
import Derived.Test.YtmdibafofdghgaaGreatDoorMa21
import Derived.Test.YtmdibafofdghgaaGreatDoorMa03
import Derived.Test.YtmdibafofdghgaaGreatDoorMa01
import Derived.Below
import Derived.Laws.OwnMore
import Derived.Laws.AppendOwn
import Derived.Test.YtmdibafofdghgaaGreatDoorRows
import Derived.ProofKit
import Derived.Test.YtmdibafofdghgaaGreatDoorMa13
import Derived.IntWalk
import Derived.Deep.LoopGhost
import Derived.Deep.DeepCutAuto
import Derived.Deep.CutBlock
import Derived.Test.YtmdibafofdghgaaGreatDoorMa06
/- value's body, Encode, walked. -/
namespace Go.Proofs.YtmdibafofdghgaaGreatDoor
open Go.ChangeShapes Go.WideShapes Go.ChangeAt Go.RowKit K P1 B5
set_option linter.unusedVariables false

theorem wr_of {k n : Int} {s : List UInt8} (h : V7.ckV k n s = true) : wrT k (V7.bdV k n s) = V7.enT k n s ∧ wrE k (V7.bdV k n s) = 0 := by
  obtain ⟨t1, t2, t3, _⟩ := V7.ck_tag h
  have hl := (V7.bd_len h).1
  have hi : isTi k = true := by
    unfold isTi
    rw [decide_eq_true (by omega : 0 ≤ k), decide_eq_true (by omega : k ≤ 255), t1]; rfl
  unfold wrT wrE
  rw [if_pos hi, if_pos hi, if_neg (by omega), if_neg (by omega), (V7.en_next h).1]
  exact ⟨rfl, rfl⟩
set_option maxRecDepth 100000 in
set_option maxHeartbeats 2000000 in
theorem body_walk (k n : Int) (s : List UInt8) (n0 : -9223372036854775808 ≤ n) (n1 : n ≤ 9223372036854775807) (h : V7.ckV k n s = true) (w : World) (T : Tabs w) :
    Calls Tryz.prog 134 #[.agg #[.int .i64 k, .int .i64 n, .string (bs s)]] w fun e w' => e = .returned (.string (bs (V7.bdV k n s))) ∧ Below w.heap.size w w' := by
  have hba := alloc_in w (.cells #[.int .i64 k, .int .i64 n, .string (bs s)] 46)
  cases V7.ways h with
  | int hk hs h0 h1 =>
    have HB : V7.bdV k n s = pn n := by unfold V7.bdV; rw [if_pos hk]
    rw [HB]
    have HN := Lib.hid (fun w1 => putnumber_walk n n0 n1 w1)
    clear HB h
    subst hk hs
    generalize pn n = P at *
    go_enter Tryz.func134, Tryz.ntmps134
    go_wp2_with fail
    refine (HN.out _).mono ?_
    rintro e w2 ⟨rfl, b2⟩
    go_wp2
    go_ret
    exact ⟨rfl, Below_in b2⟩
  | text hk hn hs =>
    have HB : V7.bdV k n s = s := by unfold V7.bdV; rw [if_neg (by omega), if_neg (by omega), if_neg (by omega)]
    rw [HB]
    clear HB h
    subst hn
    rcases hk with rfl | rfl
    all_goals
      go_enter Tryz.func134, Tryz.ntmps134
      go_wp2
      go_ret
      exact ⟨rfl, hba⟩
  | null hk hn hs =>
    have HB : V7.bdV k n s = s := by unfold V7.bdV; rw [if_neg (by omega), if_neg (by omega), if_neg (by omega)]
    rw [HB]
    clear HB h
    subst hn hk hs
    go_enter Tryz.func134, Tryz.ntmps134
    go_wp2
    go_ret
    exact ⟨rfl, hba⟩
  | addr hk hn hs =>
    have HB : V7.bdV k n s = s := by unfold V7.bdV; rw [if_neg (by omega), if_neg (by omega), if_neg (by omega)]
    rw [HB]
    clear HB h
    subst hn hk
    go_enter Tryz.func134, Tryz.ntmps134
    go_wp2
    go_ret
    exact ⟨rfl, hba⟩
  | oid hk hn l hl hs =>
    have HB : V7.bdV k n s = eb l := by unfold V7.bdV; rw [if_neg (by omega), if_neg (by omega), if_pos hk]; unfold V7.ob; rw [← hs, O6.arcs_put hl]; rfl
    rw [HB]
    have hsl : s.length ≤ 1000000 := by
      have h1 := O6.put_len l (O6.isArcs_le hl)
      have h2 := (O6.isArcs_len hl).2
      rw [← hs]; omega
    have hE := encode_walk s hsl _ (T.below hba)
    have h1 : enS s = eb l ∧ arE s = 0 := by
      have ha : O6.arcs s = some l := by rw [← hs]; exact O6.arcs_put hl
      unfold enS; rw [ha, (ar_some ha).2]; exact ⟨rfl, (ar_some ha).1⟩
    subst hn hk
    rw [h1.1, h1.2] at hE
    have HE := Lib.hid hE
    clear HB h hE h1 hl hs
    generalize eb l = B at *
    go_enter Tryz.func134, Tryz.ntmps134
    go_wp2_with fail
    refine HE.out.mono ?_
    rintro e w1 ⟨rfl, b1⟩
    go_wp2
    go_ret
    exact ⟨rfl, Below_in b1⟩
  | count hk hs h0 h1 =>
    have HB : V7.bdV k n s = un (V7.uu n) := by unfold V7.bdV; rw [if_neg (by omega), if_pos (by omega)]
    rw [HB]
    have HN := Lib.hid (fun w1 => putunsigned_walk (V7.uu n) (V7.uu_lt n) w1)
    have hu := u64_wrap n
    clear HB h
    subst hs
    generalize un (V7.uu n) = P at *
    generalize ((V7.uu n : Nat) : Int) = U at *
    rcases hk with rfl | rfl | rfl
    all_goals
      go_enter Tryz.func134, Tryz.ntmps134
      go_wp2_with fail
      refine (HN.out _).mono ?_
      rintro e w2 ⟨rfl, b2⟩
      go_wp2
      go_ret
      exact ⟨rfl, Below_in b2⟩
  | big hk hs =>
    have HB : V7.bdV k n s = un (V7.uu n) := by unfold V7.bdV; rw [if_neg (by omega), if_pos (by omega)]
    rw [HB]
    have HN := Lib.hid (fun w1 => putunsigned_walk (V7.uu n) (V7.uu_lt n) w1)
    have hu := u64_wrap n
    clear HB h
    subst hs hk
    generalize un (V7.uu n) = P at *
    generalize ((V7.uu n : Nat) : Int) = U at *
    go_enter Tryz.func134, Tryz.ntmps134
    go_wp2_with fail
    refine (HN.out _).mono ?_
    rintro e w2 ⟨rfl, b2⟩
    go_wp2
    go_ret
    exact ⟨rfl, Below_in b2⟩
set_option maxRecDepth 100000 in
set_option maxHeartbeats 2000000 in
theorem encode_walk7 (k n : Int) (s : List UInt8) (hs : s.length ≤ 1000000) (n0 : -9223372036854775808 ≤ n) (n1 : n ≤ 9223372036854775807) (w : World) (T : Tabs w) :
    Calls Tryz.prog 120 #[.agg #[.int .i64 k, .int .i64 n, .string (bs s)]] w fun e w' => e = .returned (.tuple #[.string (bs (V7.enT k n s)), .int .i64 (V7.ckE k n s : Nat)]) ∧ Below w.heap.size w w' := by
  have hba := alloc_in w (.cells #[.int .i64 k, .int .i64 n, .string (bs s)] 46)
  have hvn := Vr.new w k n s
  have hM := mayBe_walk k n s hs _ (T.below hba)
  cases h : V7.ckV k n s
  · have e1 : V7.enT k n s = [] ∧ V7.ckE k n s = 70 := by unfold V7.enT V7.ckE; rw [h]; exact ⟨rfl, rfl⟩
    rw [e1.1, e1.2]
    rw [h] at hM
    have HM := Lib.hid hM
    clear hM h e1 hvn
    go_enter Tryz.func120, Tryz.ntmps120
    go_wp2_with fail
    refine HM.out.mono ?_
    rintro e w1 ⟨rfl, b1⟩
    go_wp2
    go_ret2
    exact ⟨rfl, Below_in b1⟩
  · have e2 : V7.ckE k n s = 0 := by unfold V7.ckE; rw [h]; rfl
    obtain ⟨r1, r2⟩ := wr_of h
    have hbl := (V7.bd_len h).1
    have HB := Lib.hid (fun w1 (T1 : Tabs w1) => body_walk k n s n0 n1 h w1 T1)
    have hW := fun w1 => wrap_walk k (V7.bdV k n s) (by omega) w1
    rw [r1, r2] at hW
    rw [e2]
    rw [h] at hM
    have HM := Lib.hid hM
    have HW := Lib.hid hW
    have HT := Lib.hid (T.below hba)
    clear hM hW h e2 r1 r2 T
    generalize V7.enT k n s = E at *
    generalize V7.bdV k n s = B at *
    go_enter Tryz.func120, Tryz.ntmps120
    go_wp2_with fail
    generalize w.alloc (.cells #[.int .i64 k, .int .i64 n, .string (bs s)] 46) = w0 at *
    refine HM.out.mono ?_
    rintro e w1 ⟨rfl, b1⟩
    have T1 := Lib.hid (HT.out.below b1)
    have hv1 := hvn.below b1
    have bw := hba.trans (b1.mono hba.size)
    obtain ⟨z0, z1, z2⟩ := hv1
    clear b1 hba hvn HM HT
    go_wp2_with fail
    go_region_held3 (fun x => x.cell? ⟨w.heap.size, 0, none⟩ = some (.int .i64 k) ∧ x.cell? ⟨w.heap.size, 1, none⟩ = some (.int .i64 n) ∧ x.cell? ⟨w.heap.size, 2, none⟩ = some (.string (bs s))) (first | exact ⟨z0, z1, z2⟩ | exact y1 | exact y2)
      (first
        | (go_at_call 134; refine (HB.out _ (by exact T1.out)).mono ?_; rintro e x1 ⟨rfl, k1⟩; have k1' : Below w1.heap.size w1 x1 := ⟨k1.os, k1.tape, k1.output, k1.size, k1.block⟩; have b1 := bw.trans (k1'.mono bw.size); have hv1 := Vr.below ⟨z0, z1, z2⟩ k1'; have y1 := And.intro hv1.1 hv1.2)
        | (go_at_call 80; refine (HW.out _).mono ?_; rintro e x2 ⟨rfl, k2⟩; have k2' : Below x1.heap.size x1 x2 := ⟨k2.os, k2.tape, k2.output, k2.size, k2.block⟩; have b2 := b1.trans (k2'.mono b1.size); have hv2 := hv1.below k2'; have y2 := And.intro hv2.1 hv2.2))
    go_wp2
    go_ret2
    exact ⟨rfl, b2⟩
end Go.Proofs.YtmdibafofdghgaaGreatDoor
/- The elements that the law on shortest forms grows: plain mathematics, of no program. -/
namespace Go.Proofs.YtmdibafofdghgaaGreatDoor
open K P1
namespace B5

/-- One step: what is open, the innermost first; b: what to do, k: how long a text. -/
def gst (b : Int) (k : Nat) : List Fo → List Fo
  | [] => []
  | [t] => if b = 0 then [.nil, t] else [t.app (.leaf 4 (List.replicate k 120) .nil)]
  | t :: p :: q => if b = 0 ∧ q.length < 10 then .nil :: t :: p :: q else if b = 1 then p.app (.node 48 t .nil) :: q else t.app (.leaf 4 (List.replicate k 120) .nil) :: p :: q
theorem gst_one (b : Int) (k : Nat) (t : Fo) : gst b k [t] = if b = 0 then [.nil, t] else [t.app (.leaf 4 (List.replicate k 120) .nil)] := rfl
theorem gst_two (b : Int) (k : Nat) (t p : Fo) (q : List Fo) : gst b k (t :: p :: q) = if b = 0 ∧ q.length < 10 then .nil :: t :: p :: q else if b = 1 then p.app (.node 48 t .nil) :: q else t.app (.leaf 4 (List.replicate k 120) .nil) :: p :: q := rfl
def gall (b k : Nat → Int) : Nat → List Fo
  | 0 => [.nil]
  | i + 1 => gst (b i) (k i).toNat (gall b k i)
/-- All that is open is closed. -/
def gcl (t : Fo) : List Fo → Fo
  | [] => t
  | p :: q => gcl (p.app (.node 48 t .nil)) q
def GI : List Fo → Prop
  | [] => True
  | t :: r => t.WF ∧ t.dep + r.length ≤ 12 ∧ r.length ≤ 11 ∧ GI r
def tot : List Fo → Nat
  | [] => 0
  | t :: r => t.enc.length + 6 + tot r
theorem short_le (m : Nat) : (short m).length ≤ 5 := by
  rw [short_len]; have := kb_pos m
  by_cases h : m < 128
  · rw [if_pos h]; omega
  · rw [if_neg h]; omega
theorem enc_leaf (t : Fo) (k : Nat) : (t.app (.leaf 4 (List.replicate k 120) .nil)).enc = t.enc ++ put 4 (List.replicate k 120) := by
  rw [Fo.enc_app]; show _ ++ (put 4 _ ++ []) = _; rw [List.append_nil]
theorem enc_node (p t : Fo) : (p.app (.node 48 t .nil)).enc = p.enc ++ put 48 t.enc := by
  rw [Fo.enc_app]; show _ ++ (put 48 _ ++ []) = _; rw [List.append_nil]
theorem leaf_facts (t : Fo) (k : Nat) (hw : t.WF) (hk : k < 200) : (t.app (.leaf 4 (List.replicate k 120) .nil)).WF ∧ (t.app (.leaf 4 (List.replicate k 120) .nil)).dep = max t.dep 1 ∧ (t.app (.leaf 4 (List.replicate k 120) .nil)).enc.length ≤ t.enc.length + k + 6 := by
  refine ⟨Fo.WF_app _ _ hw ⟨rfl, by omega, rfl, by rw [List.length_replicate]; omega, trivial⟩, ?_, ?_⟩
  · rw [Fo.dep_app, Fo.dep_leaf]; simp [Fo.dep]
  · rw [enc_leaf, List.length_append, put_len, List.length_replicate]
    have := short_le k; omega
theorem node_facts (p t : Fo) (hp : p.WF) (ht : t.WF) (hl : t.enc.length < 4294967296) : (p.app (.node 48 t .nil)).WF ∧ (p.app (.node 48 t .nil)).dep = max p.dep (t.dep + 1) ∧ (p.app (.node 48 t .nil)).enc.length ≤ p.enc.length + t.enc.length + 6 := by
  refine ⟨Fo.WF_app _ _ hp ⟨rfl, by omega, rfl, hl, ht, trivial⟩, ?_, ?_⟩
  · rw [Fo.dep_app, Fo.dep_node]; simp [Fo.dep]
  · rw [enc_node, List.length_append, put_len]
    have := short_le t.enc.length; omega
theorem gst_facts (b : Int) (k : Nat) (hk : k < 200) : ∀ (st : List Fo), st ≠ [] → GI st → tot st < 4000000000 → gst b k st ≠ [] ∧ GI (gst b k st) ∧ tot (gst b k st) ≤ tot st + 206
  | [], h, _, _ => absurd rfl h
  | [t], _, ⟨h1, h2, h3, h4⟩, ht => by
    rw [gst_one]
    by_cases hb : b = 0
    · rw [if_pos hb]
      exact ⟨by simp, ⟨trivial, by simp [Fo.dep], by simp, h1, h2, h3, h4⟩, by simp [tot, Fo.enc]; omega⟩
    · rw [if_neg hb]
      obtain ⟨l1, l2, l3⟩ := leaf_facts t k h1 hk
      exact ⟨by simp, ⟨l1, by rw [l2]; simp at h2 ⊢; omega, by simp, trivial⟩, by simp only [tot] at *; omega⟩
  | t :: p :: q, _, ⟨h1, h2, h3, p1, p2, p3, h4⟩, ht => by
    rw [gst_two]
    rw [List.length_cons] at h2 h3
    simp only [tot] at ht
    by_cases hb : b = 0 ∧ q.length < 10
    · rw [if_pos hb]
      exact ⟨by simp, ⟨trivial, by simp [Fo.dep]; omega, by simp; omega, h1, by rw [List.length_cons]; exact h2, by rw [List.length_cons]; exact h3, p1, p2, p3, h4⟩, by simp only [tot, Fo.enc, List.length_nil]; omega⟩
    · rw [if_neg hb]
      by_cases hb1 : b = 1
      · rw [if_pos hb1]
        obtain ⟨n1, n2, n3⟩ := node_facts p t p1 h1 (by omega)
        exact ⟨by simp, ⟨n1, by rw [n2]; omega, p3, h4⟩, by simp only [tot]; omega⟩
      · rw [if_neg hb1]
        obtain ⟨l1, l2, l3⟩ := leaf_facts t k h1 hk
        exact ⟨by simp, ⟨l1, by rw [l2, List.length_cons]; omega, by rw [List.length_cons]; exact h3, p1, p2, p3, h4⟩, by simp only [tot]; omega⟩
theorem gall_facts (b k : Nat → Int) (hk : ∀ i, 0 ≤ k i ∧ k i < 200) : ∀ i, i ≤ 60 → gall b k i ≠ [] ∧ GI (gall b k i) ∧ tot (gall b k i) ≤ 6 + 206 * i
  | 0, _ => ⟨by simp [gall], ⟨trivial, by simp [Fo.dep], by simp, trivial⟩, by simp [gall, tot, Fo.enc]⟩
  | i + 1, h => by
    obtain ⟨h1, h2, h3⟩ := gall_facts b k hk i (by omega)
    have := hk i
    obtain ⟨g1, g2, g3⟩ := gst_facts (b i) (k i).toNat (by omega) (gall b k i) h1 h2 (by omega)
    exact ⟨g1, g2, by show tot (gst (b i) (k i).toNat (gall b k i)) ≤ _; omega⟩
theorem gcl_facts : ∀ (q : List Fo) (t : Fo), GI (t :: q) → tot (t :: q) < 4000000000 → (gcl t q).WF ∧ (gcl t q).dep ≤ 12 ∧ (gcl t q).enc.length + 6 ≤ tot (t :: q)
  | [], t, ⟨h1, h2, _, _⟩, _ => ⟨h1, by simpa [gcl] using h2, by simp [gcl, tot]⟩
  | p :: q, t, ⟨h1, h2, h3, p1, p2, p3, h4⟩, ht => by
    rw [List.length_cons] at h2 h3
    simp only [tot] at ht
    obtain ⟨n1, n2, n3⟩ := node_facts p t p1 h1 (by omega)
    obtain ⟨g1, g2, g3⟩ := gcl_facts q (p.app (.node 48 t .nil)) ⟨n1, by rw [n2]; omega, p3, h4⟩ (by simp only [tot]; omega)
    refine ⟨g1, g2, ?_⟩
    show (gcl (p.app (.node 48 t .nil)) q).enc.length + 6 ≤ _
    simp only [tot] at *; omega
/-- The element that is grown. -/
def grow : List Fo → Fo
  | [] => .nil
  | t :: q => .node 48 (gcl t q) .nil
theorem grow_facts {st : List Fo} (h0 : st ≠ []) (h1 : GI st) (h2 : tot st ≤ 20000) : (grow st).WF ∧ 1 ≤ (grow st).dep ∧ (grow st).dep ≤ 13 ∧ (grow st).enc.length ≤ 20006 ∧ ∃ t cs, grow st = .node t cs .nil := by
  cases st with
  | nil => exact absurd rfl h0
  | cons t q =>
    obtain ⟨g1, g2, g3⟩ := gcl_facts q t h1 (by omega)
    have hd : (grow (t :: q)).dep = (gcl t q).dep + 1 := by
      show (Fo.node 48 (gcl t q) .nil).dep = _
      rw [Fo.dep_node]; simp [Fo.dep]
    refine ⟨⟨rfl, by omega, rfl, by omega, g1, trivial⟩, by omega, by omega, ?_, _, _, rfl⟩
    show (put 48 (gcl t q).enc ++ []).length ≤ _
    rw [List.append_nil, put_len]
    have := short_le (gcl t q).enc.length; omega
end B5
end Go.Proofs.YtmdibafofdghgaaGreatDoor
/- A list of texts that a call made itself, in a block that is known: cells, a shorter slice of it, a member that is turned. Of no program. -/
namespace Go.Proofs.YtmdibafofdghgaaGreatDoor
open Go.RowKit
namespace K

def strs (ss : List (List UInt8)) : List Value := ss.map fun s => Value.string (bs s)
theorem strs_len (ss : List (List UInt8)) : (strs ss).length = ss.length := by simp [strs]
theorem strs_app (a b : List (List UInt8)) : strs (a ++ b) = strs a ++ strs b := by simp [strs]
/-- Block g, behind B, begins with these texts; T is the type of its elements. -/
def StkAt (w : World) (B : Nat) (T : TypeId) (g cap : Nat) (ss : List (List UInt8)) : Prop :=
  B ≤ g ∧ ss.length ≤ cap ∧ cap ≤ maxLen ∧ ∃ C, w.heap[g]? = some (.cells C T (0, 0)) ∧ C.size = cap ∧ C.toList.take ss.length = strs ss
section
variable {w w' : World} {B : Nat} {T : TypeId} {g cap : Nat} {ss : List (List UInt8)}
theorem StkAt.lt (h : StkAt w B T g cap ss) : g < w.heap.size := by
  obtain ⟨_, _, _, C, hC, _⟩ := h
  exact lt_of_block hC
theorem StkAt.cell (h : StkAt w B T g cap ss) (i : Nat) (hi : i < ss.length) : w.cell? ⟨g, i, none⟩ = some (.string (bs (ss.getD i []))) := by
  obtain ⟨_, _, _, C, hC, _, ht⟩ := h
  rw [cellRow hC, ← Array.getElem?_toList]
  have h1 := congrArg (fun x : List Value => x[i]?) ht
  rw [List.getElem?_take_of_lt hi] at h1
  rw [h1]
  simp [strs, List.getD, List.getElem?_eq_getElem hi]
theorem StkAt.free (h : StkAt w B T g cap ss) (i : Nat) : w.frozen? ⟨g, i, none⟩ = false := by
  obtain ⟨_, _, _, C, hC, _⟩ := h
  exact freeRow hC i
theorem StkAt.below (h : StkAt w B T g cap ss) (k : Below w.heap.size w w') : StkAt w' B T g cap ss := by
  obtain ⟨h1, h2, h3, C, hC, h4⟩ := h
  exact ⟨h1, h2, h3, C, (k.block g (lt_of_block hC)).trans hC, h4⟩
theorem StkAt.cut {a b : List (List UInt8)} (h : StkAt w B T g cap (a ++ b)) : StkAt w B T g cap a := by
  obtain ⟨h1, h2, h3, C, hC, h4, h5⟩ := h
  rw [List.length_append] at h2
  refine ⟨h1, by omega, h3, C, hC, h4, ?_⟩
  have h6 := congrArg (List.take a.length) h5
  rw [List.take_take, List.length_append, Nat.min_eq_left (by omega), strs_app, List.take_append_of_le_length (by rw [strs_len]; omega), List.take_of_length_le (l := strs a) (by rw [strs_len]; omega)] at h6
  exact h6
theorem StkAt.set (h : StkAt w B T g cap ss) (i : Nat) (s : List UInt8) : StkAt (w.setCell ⟨g, i, none⟩ (.string (bs s))) B T g cap (ss.set i s) := by
  obtain ⟨h1, h2, h3, C, hC, h4, h5⟩ := h
  refine ⟨h1, by rw [List.length_set]; exact h2, h3, _, rowSet hC i _, by rw [Array.size_setIfInBounds]; exact h4, ?_⟩
  rw [Array.toList_setIfInBounds, List.length_set, List.take_set, h5]
  unfold strs
  rw [List.map_set]
theorem StkAt.own (h : StkAt w B T g cap ss) : w.ownsRow B T 1 (.slice (some ⟨g, 0, none⟩) ss.length cap) ss.length (strs ss) := by
  obtain ⟨h1, h2, h3, C, hC, h4, h5⟩ := h
  exact ⟨by rw [strs_len]; omega, .inr ⟨g, cap, C, rfl, h1, hC, h2, h3, by omega, by rw [Nat.mul_one]; exact h5⟩⟩
theorem StkAt.ofOwn {v : Value} {n : Nat} (hn : n = ss.length) (h0 : 0 < ss.length) (h : w.ownsRow B T 1 v n (strs ss)) : ∃ g cap, v = .slice (some ⟨g, 0, none⟩) ss.length cap ∧ StkAt w B T g cap ss := by
  subst hn
  rcases h.2 with ⟨_, hz⟩ | ⟨g, cap, C, hv, h1, hC, h2, h3, h4, h5⟩
  · omega
  · exact ⟨g, cap, hv, h1, h2, h3, C, hC, by omega, by rw [Nat.mul_one] at h5; exact h5⟩
theorem StkAt.new (w : World) (B : Nat) (T : TypeId) (s : List UInt8) (hB : B ≤ w.heap.size) : StkAt (w.alloc (.cells #[.string (bs s)] T)) B T w.heap.size 1 [s] :=
  ⟨hB, Nat.le_refl _, by unfold maxLen; omega, _, rowNew w _, rfl, rfl⟩
end
end K
end Go.Proofs.YtmdibafofdghgaaGreatDoor
/- gongbook: Below, Cut. -/
namespace Go.Proofs.YtmdibafofdghgaaGreatDoor
open Go.ChangeShapes Go.WideShapes Go.ChangeAt Go.RowKit K
set_option linter.unusedVariables false

/-- What Below answers. -/
def belowN (x n : Int) : Int := (x.tmod n + n) % n
theorem tmod_bounds (x n : Int) (hn : 0 < n) : -n < x.tmod n ∧ x.tmod n < n := by
  have h1 := Int.lt_tmod_of_pos x hn
  have h2 := Int.tmod_lt_of_pos x hn
  exact ⟨h1, h2⟩
theorem belowN_bounds (x n : Int) (hn : 0 < n) : 0 ≤ belowN x n ∧ belowN x n < n := by
  unfold belowN
  exact ⟨Int.emod_nonneg _ (by omega), Int.emod_lt_of_pos _ hn⟩
theorem below_walk (x n : Int) (h0 : -9223372036854775808 ≤ x) (h1 : x ≤ 9223372036854775807) (hn : 0 < n) (hn2 : n ≤ 4611686018427387904) (w : World) :
    Calls Tryz.prog 22 #[.int .i64 x, .int .i64 n] w fun e w' => e = .returned (.int .i64 (belowN x n)) ∧ w = w' := by
  have hb := tmod_bounds x n hn
  have hnz : (n == 0) = false := by rw [beq_eq_false_iff_ne]; omega
  obtain ⟨hb1, hb2⟩ := hb
  go_enter Tryz.func22, Tryz.ntmps22
  go_wp2
  go_ret
  exact ⟨rfl, rfl⟩

end Go.Proofs.YtmdibafofdghgaaGreatDoor
/- gonglaw05.grown, walked: on whatever Wrap answers as it should. -/
namespace Go.Proofs.YtmdibafofdghgaaGreatDoor
open Go.ChangeShapes Go.WideShapes Go.ChangeAt Go.RowKit K P1 B5
set_option linter.unusedVariables false

def sst (st : List Fo) : List (List UInt8) := st.reverse.map Fo.enc
theorem sst_cons (t : Fo) (r : List Fo) : sst (t :: r) = sst r ++ [t.enc] := by simp [sst]
theorem sst_len (st : List Fo) : (sst st).length = st.length := by simp [sst]
theorem get_end (a : List (List UInt8)) (x : List UInt8) (b : List (List UInt8)) : (a ++ x :: b).getD a.length [] = x := by simp [List.getD]
theorem set_end (a : List (List UInt8)) (x y : List UInt8) : (a ++ [x]).set a.length y = a ++ [y] := by simp
theorem tot_head {t : Fo} {r : List Fo} : t.enc.length + 6 ≤ tot (t :: r) := by simp only [tot]; omega
theorem tot_two {t p : Fo} {r : List Fo} : t.enc.length + p.enc.length + 12 ≤ tot (t :: p :: r) := by simp only [tot]; omega

theorem wf_i64 {t : Int} (wt : (Lit.int .i64 t).wf = true) : -9223372036854775808 ≤ t ∧ t ≤ 9223372036854775807 := by
  simp [Lit.wf, IntKind.min, IntKind.max, IntKind.bits, IntKind.signed] at wt; omega
/-- What Wrap is known to answer. -/
def WrapOk (I : World → Prop) : Prop := (∀ a b, I a → Below a.heap.size a b → I b) ∧ ∀ (t : Nat) (b : List UInt8) (w : World), isTag t = true → t < 256 → b.length ≤ 16777216 → I w →
  Calls Tryz.prog 80 #[.int .i64 t, .string (bs b)] w fun e w' => e = .returned (.tuple #[.string (bs (put t b)), .int .i64 0]) ∧ Below w.heap.size w w'
theorem str_info : (Tryz.prog.info? 9).map (fun i => (i.zero, i.size, i.bytes)) = some (some (.string .empty), 1, 16) := by kernel_rfl

def GwRel (w : World) (G : Nat → List Fo) (I g : Nat) (v3 v4 : Value) (wr : World) : Prop :=
  ∃ i gb cap, i + g = I ∧ v3 = .slice (some ⟨gb, 0, none⟩) (G i).length cap ∧ v4 = .int .i64 (i : Nat) ∧ StkAt wr w.heap.size 9 gb cap (sst (G i)) ∧ Below w.heap.size w wr
def GcRel (w : World) (F : Fo) (gb cap g : Nat) (v3 : Value) (wr : World) : Prop :=
  ∃ t q, gcl t q = F ∧ q.length = g ∧ g ≤ 20 ∧ v3 = .slice (some ⟨gb, 0, none⟩) (g + 1) cap ∧ tot (t :: q) ≤ 20000 ∧ StkAt wr w.heap.size 9 gb cap (sst (t :: q)) ∧ Below w.heap.size w wr
theorem grow_enc (t : Fo) (q : List Fo) : (grow (t :: q)).enc = put 48 (gcl t q).enc := by
  show put 48 (gcl t q).enc ++ [] = _; rw [List.append_nil]
end Go.Proofs.YtmdibafofdghgaaGreatDoor
/- The laws of ber, walked on calls that keep their word. -/
namespace Go.Proofs.YtmdibafofdghgaaGreatDoor
open Go.ChangeShapes Go.WideShapes Go.ChangeAt Go.RowKit K P1 B5
set_option linter.unusedVariables false

theorem wr_yes (t : Nat) (b : List UInt8) (ht : t < 256) (h2 : isTag t = true) (hb : b.length ≤ 16777216) : wrT (t : Int) b = put t b ∧ wrE (t : Int) b = 0 := by
  have hi : isTi (t : Int) = true := by
    unfold isTi; rw [decide_eq_true (by omega), decide_eq_true (by omega), Int.toNat_natCast, h2]; rfl
  unfold wrT wrE
  rw [hi, if_pos rfl, if_pos rfl, if_neg (by omega), if_neg (by omega)]
  exact ⟨by simp, rfl⟩
theorem canon_good {l : List UInt8} {f : Fo} (h : wh l = .ok f) : whE l = 0 ∧ whD l = f.dep ∧ whC l = f.enc ∧ f.enc.length ≤ l.length ∧ whE f.enc = 0 ∧ whD f.enc = f.dep ∧ whC f.enc = f.enc ∧ f.dep ≤ 32 := by
  obtain ⟨a1, a2, a3⟩ := wh_ok h
  obtain ⟨c1, c2, c3, c4⟩ := wh_again h
  obtain ⟨d1, d2, d3⟩ := wh_ok c1
  exact ⟨a1, a2, a3, c2, d1, d2, d3, c4⟩
theorem prs_codes : ∀ (n a : Nat) (l : List UInt8) (e : Nat), l.length ≤ n → prs a l = .error e → e = 50 ∨ e = 51
  | 0, a, l, e, hn, h => by
    obtain rfl : l = [] := List.length_eq_zero_iff.1 (by omega)
    rw [prs_nil] at h; cases h
  | n + 1, a, l, e, hn, h => by
    by_cases he : l = []
    · subst he; rw [prs_nil] at h; cases h
    · rw [prs_step he] at h
      by_cases hx : nxOk l = true
      · rw [if_neg (by rw [hx]; simp)] at h
        obtain ⟨_, _, _, _, h5⟩ := nx_of hx
        by_cases ha : 32 < a
        · rw [if_pos ha] at h; cases h; exact .inr rfl
        · rw [if_neg ha] at h
          by_cases hm : isMade (nxT l) = true
          · rw [if_pos hm] at h
            cases h1 : prs (a + 1) (nxB l) with
            | error e1 => rw [h1] at h; cases h; exact prs_codes n _ _ _ (by omega) h1
            | ok cs =>
              rw [h1] at h
              cases h2 : prs a (nxR l) with
              | error e2 => rw [h2] at h; cases h; exact prs_codes n _ _ _ (by omega) h2
              | ok r => rw [h2] at h; cases h
          · rw [if_neg hm] at h
            cases h2 : prs a (nxR l) with
            | error e2 => rw [h2] at h; cases h; exact prs_codes n _ _ _ (by omega) h2
            | ok r => rw [h2] at h; cases h
      · rw [Bool.not_eq_true] at hx
        rw [if_pos hx] at h; cases h; exact .inl rfl
theorem wh_codes {l : List UInt8} {e : Nat} (h : wh l = .error e) : e = 50 ∨ e = 51 := by
  unfold wh at h
  by_cases hx : nxOk l = true
  · rw [if_neg (by rw [hx]; simp)] at h
    unfold hd1 at h
    by_cases hm : isMade (nxT l) = true
    · rw [if_pos hm] at h
      cases h1 : prs 2 (nxB l) with
      | error e1 => rw [h1] at h; cases h; exact prs_codes _ _ _ _ (Nat.le_refl _) h1
      | ok cs =>
        rw [h1] at h
        by_cases hr : nxR l = []
        · simp [hr] at h
        · simp [hr] at h; exact .inl h.symm
    · rw [if_neg hm] at h
      by_cases hr : nxR l = []
      · simp [hr] at h
      · simp [hr] at h; exact .inl h.symm
  · rw [Bool.not_eq_true] at hx
    rw [if_pos hx] at h; cases h; exact .inl rfl
theorem tower_zero (b : List UInt8) : (tower b 0).enc = put 4 b := by show put 4 b ++ [] = _; rw [List.append_nil]
def TwRel (w : World) (b : List UInt8) (M g : Nat) (v5 v6 v22 : Value) (wr : World) : Prop :=
  ∃ i, i + g = M ∧ v5 = .string (bs (tower b i).enc) ∧ v6 = .int .i64 0 ∧ v22 = .int .i64 (i : Nat) ∧ Below w.heap.size w wr
end Go.Proofs.YtmdibafofdghgaaGreatDoor
