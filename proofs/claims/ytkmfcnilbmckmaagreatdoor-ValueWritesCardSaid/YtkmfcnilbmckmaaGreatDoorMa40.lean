/- Texts on the program and on the document, joined: BerJ, BerG, Book. -/
import Derived.Test.YtkmfcnilbmckmaaGreatDoorMa39
import Derived.Test.YtkmfcnilbmckmaaGreatDoorMa23
import Derived.Test.YtkmfcnilbmckmaaGreatDoorMa03
import Derived.Test.YtkmfcnilbmckmaaGreatDoorRows
import Derived.Test.YtkmfcnilbmckmaaGreatDoorMa01
import Derived.ProofKit
/- ber's short, Canon, walked. -/
namespace Go.Proofs.YtkmfcnilbmckmaaGreatDoor
open Go.ChangeShapes Go.WideShapes Go.ChangeAt Go.RowKit K P1 B5
set_option linter.unusedVariables false

theorem bld_fresh (w : World) : Bld w.heap.size w.heap.size [] (w.alloc (.cells #[.pointer none, .slice none 0 0] 75)) :=
  .inl ⟨Nat.le_refl _, _, rowNew w _, World.ownsRow_nil _ _ _ _, by simp [Value.ownBlock]⟩
theorem prs_inv {a : Nat} {s : List UInt8} {g : Fo} (h : prs a s = .ok g) (hs : s ≠ []) :
    nxOk s = true ∧ ((isMade (nxT s) = true ∧ ∃ cs r, prs (a + 1) (nxB s) = .ok cs ∧ prs a (nxR s) = .ok r ∧ g = .node (nxT s) cs r) ∨ (isMade (nxT s) = false ∧ ∃ r, prs a (nxR s) = .ok r ∧ g = .leaf (nxT s) (nxB s) r)) := by
  rw [prs_step hs] at h
  by_cases hx : nxOk s = true
  · rw [if_neg (by rw [hx]; simp)] at h
    refine ⟨hx, ?_⟩
    by_cases ha : 32 < a
    · rw [if_pos ha] at h; cases h
    · rw [if_neg ha] at h
      by_cases hm : isMade (nxT s) = true
      · rw [if_pos hm] at h
        cases h1 : prs (a + 1) (nxB s) with
        | error e => rw [h1] at h; cases h
        | ok cs =>
          rw [h1] at h
          cases h2 : prs a (nxR s) with
          | error e => rw [h2] at h; cases h
          | ok r => rw [h2] at h; cases h; exact .inl ⟨hm, cs, r, rfl, rfl, rfl⟩
      · rw [if_neg hm] at h
        cases h2 : prs a (nxR s) with
        | error e => rw [h2] at h; cases h
        | ok r => rw [h2] at h; cases h; exact .inr ⟨by simpa using hm, r, rfl, rfl⟩
  · rw [Bool.not_eq_true] at hx
    rw [if_pos hx] at h; cases h
theorem bld_lt {w : World} {B b : Nat} {l : List UInt8} (h : Bld B b l w) : b < w.heap.size := by
  unfold Bld at h
  rcases h with h | h
  · exact h.lt
  · exact h.lt
def ShortOk (l : List UInt8) (f : Fo) : Prop := ∀ w : World, Calls Tryz.prog 44 #[.string (bs l)] w fun e w' => e = .returned (.string (bs f.enc)) ∧ Below w.heap.size w w'
def SoRel (l : List UInt8) (a : Nat) (f : Fo) (w : World) (b g : Nat) (v0 : Value) (wr : World) : Prop :=
  ∃ out s k, v0 = .string (bs s) ∧ s.length ≤ g ∧ s.length ≤ l.length ∧ prs a s = .ok k ∧ out ++ k.enc = f.enc ∧ Bld b b out wr ∧ Below b w wr
set_option maxRecDepth 100000 in
set_option maxHeartbeats 4000000 in
theorem short_core (a : Nat) (l : List UInt8) (f : Fo) (hl : l.length ≤ 100000000) (hf : prs a l = .ok f) (IH : ∀ l' f', l'.length < l.length → prs (a + 1) l' = .ok f' → ShortOk l' f') : ShortOk l f := by
  intro w
  have HIH := Lib.hid IH
  have hfl := (prs_of l.length a l f (Nat.le_refl _) hf).2.1
  have hbf := bld_fresh w
  have hba : Below w.heap.size w (w.alloc (.cells #[.pointer none, .slice none 0 0] 75)) := (Below.refl _ _).alloc (Nat.le_refl _) _
  have hr0 : SoRel l a f w w.heap.size l.length (.string (bs l)) (w.alloc (.cells #[.pointer none, .slice none 0 0] 75)) := ⟨[], l, f, rfl, Nat.le_refl _, Nat.le_refl _, hf, rfl, hbf, hba⟩
  have HR0 := Lib.hid hr0
  clear IH hbf hba hr0 hf
  go_enter Tryz.func44, Tryz.ntmps44
  go_wp2
  go_loopg [0] l.length (fun g v0 wr => SoRel l a f w w.heap.size g v0 wr)
  case atStart => exact HR0.out
  case round =>
    clear HR0
    obtain ⟨out, s, k, rfl, hg, hsl, hk, hout, hB, hb⟩ := hrel
    have hol : out.length ≤ l.length := by
      have := congrArg List.length hout
      rw [List.length_append] at this; omega
    by_cases hs : s = []
    · subst hs
      rw [prs_nil] at hk
      cases hk
      have HP := Lib.hid (show out = f.enc by rw [← hout]; exact (List.append_nil out).symm)
      clear hout hg hsl HIH hfl
      go_wp2_with fail
      refine (bstr _ _ _ _ hB hb.size).mono ?_
      rintro e w1 ⟨rfl, b1⟩
      have hb2 := hb.trans b1
      clear b1
      go_wp2
      go_ret
      rw [HP.out]
      exact ⟨rfl, hb2⟩
    · have hne : s.isEmpty = false := List.isEmpty_eq_false_iff.2 hs
      obtain ⟨hx, hway⟩ := prs_inv hk hs
      obtain ⟨n1, n2, n3, n4, n5⟩ := nx_of hx
      have hN := Lib.hid (next_ok s (by omega) hx wr)
      have h32 := and32 (nxT s) n2
      have hbz := hb.size
      rcases hway with ⟨hm, cs, r, hcs, hr, hkk⟩ | ⟨hm, r, hr, hkk⟩
      · have hcl := (prs_of (nxB s).length (a + 1) (nxB s) cs (Nat.le_refl _) hcs).2.1
        have hS : ∀ w1 : World, Calls Tryz.prog 44 #[.string (bs (nxB s))] w1 fun e w' => e = .returned (.string (bs cs.enc)) ∧ Below w1.heap.size w1 w' := HIH.out (nxB s) cs (by omega) hcs
        have HS := Lib.hid hS
        clear hS
        have HHd := Lib.hid (fun w1 => head_walk (nxT s) cs.enc.length n2 (by omega) w1)
        have hnew : (out ++ (b8 (nxT s) :: short cs.enc.length)) ++ cs.enc ++ r.enc = f.enc := by
          rw [← hout, hkk]
          show _ = out ++ (put (nxT s) cs.enc ++ r.enc)
          unfold put; simp
        have hhl : (b8 (nxT s) :: short cs.enc.length).length ≤ 6 := by
          rw [List.length_cons, short_len]; have := kb_pos cs.enc.length
          by_cases h : cs.enc.length < 128
          · rw [if_pos h]; omega
          · rw [if_neg h]; omega
        rw [hm] at h32
        have hm32 : (bits .and .i64 ((nxT s : Nat) : Int) 32 != 0) = true := by
          rw [bne, h32]; rfl
        have HNEW := Lib.hid hnew
        have HR := Lib.hid hr
        have HG := Lib.hid hg
        have HSL := Lib.hid hsl
        generalize b8 (nxT s) :: short cs.enc.length = HD at *
        generalize cs.enc = CE at *
        generalize nxT s = T at *
        generalize nxB s = BD at *
        generalize nxR s = RS at *
        clear hnew hkk h32 hm hcs hr hk hout hg hsl hs hx HIH
        go_wp2_with fail
        refine hN.out.mono ?_
        rintro e w1 ⟨rfl, d1⟩
        have B1 := bld_below hB d1
        have b1 := hb.trans (d1.mono hb.size)
        have B2 := bld_below B1 ((Below.refl w1.heap.size w1).alloc (Nat.le_refl _) (.cells #[.int .i64 (T : Nat), .string (bs BD)] 29))
        have b2 := b1.alloc b1.size (.cells #[.int .i64 (T : Nat), .string (bs BD)] 29)
        have P2 := Prt.new w1 29 (T : Nat) BD
        have hpb : w.heap.size < w1.heap.size := bld_lt B1
        go_wp2_with fail
        generalize w1.alloc (.cells #[.int .i64 (T : Nat), .string (bs BD)] 29) = w2 at *
        generalize w1.heap.size = pb at *
        clear B1 b1 d1 hB hb
        refine (HS.out _).mono ?_
        rintro e w3 ⟨rfl, d3⟩
        have P3 := P2.below d3
        have B3 := bld_below B2 d3
        have b3 := b2.trans (d3.mono b2.size)
        have P4 := P3.setB CE
        have B4 := bld_set B3 P3 (by decide) (show w.heap.size ≠ pb by omega) 1 (.string (bs CE))
        have b4 := b3.setCell (p := ⟨pb, 1, none⟩) (show w.heap.size ≤ pb by omega) (.string (bs CE))
        obtain ⟨q0, q1, f0, f1⟩ := P3.cells
        clear P3 B3 b3 d3 P2 B2 b2
        go_wp2_with fail
        generalize w3.setCell ⟨pb, 1, none⟩ (.string (bs CE)) = w4 at *
        clear q0 q1 f0 f1
        refine (HHd.out w4).mono ?_
        rintro e w5 ⟨rfl, d5⟩
        have P5 := P4.below d5
        have B5 := bld_below B4 d5
        have b5 := b4.trans (d5.mono b4.size)
        obtain ⟨q0, q1, f0, f1⟩ := P5.cells
        have HP5 := Lib.hid P5
        clear P4 B4 b4 d5 P5
        go_wp2_with fail
        refine (wstr _ _ out HD w5 B5 (by omega) b5.size).mono ?_
        rintro e w6 ⟨rfl, B6, k6, o6⟩
        have P6 : Prt w6 pb 29 (T : Nat) CE := (o6 pb _ _ _ HP5.out (by decide) (by omega)).trans HP5.out
        have b6 := b5.trans k6
        clear q0 q1 f0 f1 HP5 B5 k6 o6 b5
        obtain ⟨q0, q1, f0, f1⟩ := P6.cells
        clear P6
        go_wp2_with fail
        refine (wstr _ _ (out ++ HD) CE w6 B6 (by rw [List.length_append]; omega) b6.size).mono ?_
        rintro e w7 ⟨rfl, B7, k7, o7⟩
        have b7 := b6.trans k7
        clear q0 q1 f0 f1 k7 o7 b6 B6
        go_wp2
        go_roundg RS.length
        case measure => have := HG.out; omega
        case rel => exact ⟨out ++ HD ++ CE, RS, r, rfl, Nat.le_refl _, by have := HSL.out; omega, HR.out, HNEW.out, B7, b7⟩
      · have HHd := Lib.hid (fun w1 => head_walk (nxT s) (nxB s).length n2 (by omega) w1)
        have hnew : (out ++ (b8 (nxT s) :: short (nxB s).length)) ++ nxB s ++ r.enc = f.enc := by
          rw [← hout, hkk]
          show _ = out ++ (put (nxT s) (nxB s) ++ r.enc)
          unfold put; simp
        have hhl : (b8 (nxT s) :: short (nxB s).length).length ≤ 6 := by
          rw [List.length_cons, short_len]; have := kb_pos (nxB s).length
          by_cases h : (nxB s).length < 128
          · rw [if_pos h]; omega
          · rw [if_neg h]; omega
        rw [hm] at h32
        have hm32 : (bits .and .i64 ((nxT s : Nat) : Int) 32 != 0) = false := by
          rw [bne, h32]; rfl
        have HNEW := Lib.hid hnew
        have HR := Lib.hid hr
        have HG := Lib.hid hg
        have HSL := Lib.hid hsl
        generalize b8 (nxT s) :: short (nxB s).length = HD at *
        generalize nxT s = T at *
        generalize nxB s = CE at *
        generalize nxR s = RS at *
        clear hnew hkk h32 hm hr hk hout hg hsl hs hx HIH
        go_wp2_with fail
        refine hN.out.mono ?_
        rintro e w1 ⟨rfl, d1⟩
        have B1 := bld_below hB d1
        have b1 := hb.trans (d1.mono hb.size)
        have B4 := bld_below B1 ((Below.refl w1.heap.size w1).alloc (Nat.le_refl _) (.cells #[.int .i64 (T : Nat), .string (bs CE)] 29))
        have b4 := b1.alloc b1.size (.cells #[.int .i64 (T : Nat), .string (bs CE)] 29)
        have P4 := Prt.new w1 29 (T : Nat) CE
        have hpb : w.heap.size < w1.heap.size := bld_lt B1
        go_wp2_with fail
        generalize w1.alloc (.cells #[.int .i64 (T : Nat), .string (bs CE)] 29) = w4 at *
        generalize w1.heap.size = pb at *
        clear B1 b1 d1 hB hb
        refine (HHd.out w4).mono ?_
        rintro e w5 ⟨rfl, d5⟩
        have P5 := P4.below d5
        have B5 := bld_below B4 d5
        have b5 := b4.trans (d5.mono b4.size)
        obtain ⟨q0, q1, f0, f1⟩ := P5.cells
        have HP5 := Lib.hid P5
        clear P4 B4 b4 d5 P5
        go_wp2_with fail
        refine (wstr _ _ out HD w5 B5 (by omega) b5.size).mono ?_
        rintro e w6 ⟨rfl, B6, k6, o6⟩
        have P6 : Prt w6 pb 29 (T : Nat) CE := (o6 pb _ _ _ HP5.out (by decide) (by omega)).trans HP5.out
        have b6 := b5.trans k6
        clear q0 q1 f0 f1 HP5 B5 k6 o6 b5
        obtain ⟨q0, q1, f0, f1⟩ := P6.cells
        clear P6
        go_wp2_with fail
        refine (wstr _ _ (out ++ HD) CE w6 B6 (by rw [List.length_append]; omega) b6.size).mono ?_
        rintro e w7 ⟨rfl, B7, k7, o7⟩
        have b7 := b6.trans k7
        clear q0 q1 f0 f1 k7 o7 b6 B6
        go_wp2
        go_roundg RS.length
        case measure => have := HG.out; omega
        case rel => exact ⟨out ++ HD ++ CE, RS, r, rfl, Nat.le_refl _, by have := HSL.out; omega, HR.out, HNEW.out, B7, b7⟩
theorem short_walk : ∀ (n a : Nat) (l : List UInt8) (f : Fo), l.length ≤ n → l.length ≤ 100000000 → prs a l = .ok f → ShortOk l f
  | 0, a, l, f, hn, hl, hf => short_core a l f hl hf fun l' f' h _ => absurd h (by omega)
  | n + 1, a, l, f, hn, hl, hf => short_core a l f hl hf fun l' f' h h2 => short_walk n (a + 1) l' f' (by omega) (by omega) h2
end Go.Proofs.YtkmfcnilbmckmaaGreatDoor
/- The elements that the law on shortest forms grows: plain mathematics, of no program. -/
namespace Go.Proofs.YtkmfcnilbmckmaaGreatDoor
open K P1
namespace B5

/-- One step: what is open, the innermost first; b: what to do, k: how long a text. -/
def gst (b : Int) (k : Nat) : List Fo → List Fo
  | [] => []
  | [t] => if b = 0 then [.nil, t] else [t.app (.leaf 4 (List.replicate k 120) .nil)]
  | t :: p :: q => if b = 0 ∧ q.length < 10 then .nil :: t :: p :: q else if b = 1 then p.app (.node 48 t .nil) :: q else t.app (.leaf 4 (List.replicate k 120) .nil) :: p :: q
theorem gst_one (b : Int) (k : Nat) (t : Fo) : gst b k [t] = if b = 0 then [.nil, t] else [t.app (.leaf 4 (List.replicate k 120) .nil)] := rfl
theorem gst_two (b : Int) (k : Nat) (t p : Fo) (q : List Fo) : gst b k (t :: p :: q) = if b = 0 ∧ q.length < 10 then .nil :: t :: p :: q else if b = 1 then p.app (.node 48 t .nil) :: q else t.app (.leaf 4 (List.replicate k 120) .nil) :: p :: q := rfl
def gall (b k : Nat → Int) : Nat → List Fo
  | 0 => [.nil]
  | i + 1 => gst (b i) (k i).toNat (gall b k i)
/-- All that is open is closed. -/
def gcl (t : Fo) : List Fo → Fo
  | [] => t
  | p :: q => gcl (p.app (.node 48 t .nil)) q
def GI : List Fo → Prop
  | [] => True
  | t :: r => t.WF ∧ t.dep + r.length ≤ 12 ∧ r.length ≤ 11 ∧ GI r
def tot : List Fo → Nat
  | [] => 0
  | t :: r => t.enc.length + 6 + tot r
theorem short_le (m : Nat) : (short m).length ≤ 5 := by
  rw [short_len]; have := kb_pos m
  by_cases h : m < 128
  · rw [if_pos h]; omega
  · rw [if_neg h]; omega
theorem enc_leaf (t : Fo) (k : Nat) : (t.app (.leaf 4 (List.replicate k 120) .nil)).enc = t.enc ++ put 4 (List.replicate k 120) := by
  rw [Fo.enc_app]; show _ ++ (put 4 _ ++ []) = _; rw [List.append_nil]
theorem enc_node (p t : Fo) : (p.app (.node 48 t .nil)).enc = p.enc ++ put 48 t.enc := by
  rw [Fo.enc_app]; show _ ++ (put 48 _ ++ []) = _; rw [List.append_nil]
theorem leaf_facts (t : Fo) (k : Nat) (hw : t.WF) (hk : k < 200) : (t.app (.leaf 4 (List.replicate k 120) .nil)).WF ∧ (t.app (.leaf 4 (List.replicate k 120) .nil)).dep = max t.dep 1 ∧ (t.app (.leaf 4 (List.replicate k 120) .nil)).enc.length ≤ t.enc.length + k + 6 := by
  refine ⟨Fo.WF_app _ _ hw ⟨rfl, by omega, rfl, by rw [List.length_replicate]; omega, trivial⟩, ?_, ?_⟩
  · rw [Fo.dep_app, Fo.dep_leaf]; simp [Fo.dep]
  · rw [enc_leaf, List.length_append, put_len, List.length_replicate]
    have := short_le k; omega
theorem node_facts (p t : Fo) (hp : p.WF) (ht : t.WF) (hl : t.enc.length < 4294967296) : (p.app (.node 48 t .nil)).WF ∧ (p.app (.node 48 t .nil)).dep = max p.dep (t.dep + 1) ∧ (p.app (.node 48 t .nil)).enc.length ≤ p.enc.length + t.enc.length + 6 := by
  refine ⟨Fo.WF_app _ _ hp ⟨rfl, by omega, rfl, hl, ht, trivial⟩, ?_, ?_⟩
  · rw [Fo.dep_app, Fo.dep_node]; simp [Fo.dep]
  · rw [enc_node, List.length_append, put_len]
    have := short_le t.enc.length; omega
theorem gst_facts (b : Int) (k : Nat) (hk : k < 200) : ∀ (st : List Fo), st ≠ [] → GI st → tot st < 4000000000 → gst b k st ≠ [] ∧ GI (gst b k st) ∧ tot (gst b k st) ≤ tot st + 206
  | [], h, _, _ => absurd rfl h
  | [t], _, ⟨h1, h2, h3, h4⟩, ht => by
    rw [gst_one]
    by_cases hb : b = 0
    · rw [if_pos hb]
      exact ⟨by simp, ⟨trivial, by simp [Fo.dep], by simp, h1, h2, h3, h4⟩, by simp [tot, Fo.enc]; omega⟩
    · rw [if_neg hb]
      obtain ⟨l1, l2, l3⟩ := leaf_facts t k h1 hk
      exact ⟨by simp, ⟨l1, by rw [l2]; simp at h2 ⊢; omega, by simp, trivial⟩, by simp only [tot] at *; omega⟩
  | t :: p :: q, _, ⟨h1, h2, h3, p1, p2, p3, h4⟩, ht => by
    rw [gst_two]
    rw [List.length_cons] at h2 h3
    simp only [tot] at ht
    by_cases hb : b = 0 ∧ q.length < 10
    · rw [if_pos hb]
      exact ⟨by simp, ⟨trivial, by simp [Fo.dep]; omega, by simp; omega, h1, by rw [List.length_cons]; exact h2, by rw [List.length_cons]; exact h3, p1, p2, p3, h4⟩, by simp only [tot, Fo.enc, List.length_nil]; omega⟩
    · rw [if_neg hb]
      by_cases hb1 : b = 1
      · rw [if_pos hb1]
        obtain ⟨n1, n2, n3⟩ := node_facts p t p1 h1 (by omega)
        exact ⟨by simp, ⟨n1, by rw [n2]; omega, p3, h4⟩, by simp only [tot]; omega⟩
      · rw [if_neg hb1]
        obtain ⟨l1, l2, l3⟩ := leaf_facts t k h1 hk
        exact ⟨by simp, ⟨l1, by rw [l2, List.length_cons]; omega, by rw [List.length_cons]; exact h3, p1, p2, p3, h4⟩, by simp only [tot]; omega⟩
theorem gall_facts (b k : Nat → Int) (hk : ∀ i, 0 ≤ k i ∧ k i < 200) : ∀ i, i ≤ 60 → gall b k i ≠ [] ∧ GI (gall b k i) ∧ tot (gall b k i) ≤ 6 + 206 * i
  | 0, _ => ⟨by simp [gall], ⟨trivial, by simp [Fo.dep], by simp, trivial⟩, by simp [gall, tot, Fo.enc]⟩
  | i + 1, h => by
    obtain ⟨h1, h2, h3⟩ := gall_facts b k hk i (by omega)
    have := hk i
    obtain ⟨g1, g2, g3⟩ := gst_facts (b i) (k i).toNat (by omega) (gall b k i) h1 h2 (by omega)
    exact ⟨g1, g2, by show tot (gst (b i) (k i).toNat (gall b k i)) ≤ _; omega⟩
theorem gcl_facts : ∀ (q : List Fo) (t : Fo), GI (t :: q) → tot (t :: q) < 4000000000 → (gcl t q).WF ∧ (gcl t q).dep ≤ 12 ∧ (gcl t q).enc.length + 6 ≤ tot (t :: q)
  | [], t, ⟨h1, h2, _, _⟩, _ => ⟨h1, by simpa [gcl] using h2, by simp [gcl, tot]⟩
  | p :: q, t, ⟨h1, h2, h3, p1, p2, p3, h4⟩, ht => by
    rw [List.length_cons] at h2 h3
    simp only [tot] at ht
    obtain ⟨n1, n2, n3⟩ := node_facts p t p1 h1 (by omega)
    obtain ⟨g1, g2, g3⟩ := gcl_facts q (p.app (.node 48 t .nil)) ⟨n1, by rw [n2]; omega, p3, h4⟩ (by simp only [tot]; omega)
    refine ⟨g1, g2, ?_⟩
    show (gcl (p.app (.node 48 t .nil)) q).enc.length + 6 ≤ _
    simp only [tot] at *; omega
/-- The element that is grown. -/
def grow : List Fo → Fo
  | [] => .nil
  | t :: q => .node 48 (gcl t q) .nil
theorem grow_facts {st : List Fo} (h0 : st ≠ []) (h1 : GI st) (h2 : tot st ≤ 20000) : (grow st).WF ∧ 1 ≤ (grow st).dep ∧ (grow st).dep ≤ 13 ∧ (grow st).enc.length ≤ 20006 ∧ ∃ t cs, grow st = .node t cs .nil := by
  cases st with
  | nil => exact absurd rfl h0
  | cons t q =>
    obtain ⟨g1, g2, g3⟩ := gcl_facts q t h1 (by omega)
    have hd : (grow (t :: q)).dep = (gcl t q).dep + 1 := by
      show (Fo.node 48 (gcl t q) .nil).dep = _
      rw [Fo.dep_node]; simp [Fo.dep]
    refine ⟨⟨rfl, by omega, rfl, by omega, g1, trivial⟩, by omega, by omega, ?_, _, _, rfl⟩
    show (put 48 (gcl t q).enc ++ []).length ≤ _
    rw [List.append_nil, put_len]
    have := short_le (gcl t q).enc.length; omega
end B5
end Go.Proofs.YtkmfcnilbmckmaaGreatDoor
/- gongbook: Below, Cut. -/
namespace Go.Proofs.YtkmfcnilbmckmaaGreatDoor
open Go.ChangeShapes Go.WideShapes Go.ChangeAt Go.RowKit K
set_option linter.unusedVariables false

/-- What Below answers. -/
def belowN (x n : Int) : Int := (x.tmod n + n) % n
theorem tmod_bounds (x n : Int) (hn : 0 < n) : -n < x.tmod n ∧ x.tmod n < n := by
  have h1 := Int.lt_tmod_of_pos x hn
  have h2 := Int.tmod_lt_of_pos x hn
  exact ⟨h1, h2⟩
theorem belowN_bounds (x n : Int) (hn : 0 < n) : 0 ≤ belowN x n ∧ belowN x n < n := by
  unfold belowN
  exact ⟨Int.emod_nonneg _ (by omega), Int.emod_lt_of_pos _ hn⟩
end Go.Proofs.YtkmfcnilbmckmaaGreatDoor
