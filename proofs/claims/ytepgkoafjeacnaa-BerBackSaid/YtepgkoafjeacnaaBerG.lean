/- The elements that the law on shortest forms grows: plain mathematics, of no program. -/
import Derived.Test.YtepgkoafjeacnaaBerN
namespace Go.Proofs.Ytepgkoafjeacnaa
open K P1
namespace B5

/-- One step: what is open, the innermost first; b: what to do, k: how long a text. -/
def gst (b : Int) (k : Nat) : List Fo → List Fo
  | [] => []
  | [t] => if b = 0 then [.nil, t] else [t.app (.leaf 4 (List.replicate k 120) .nil)]
  | t :: p :: q => if b = 0 ∧ q.length < 10 then .nil :: t :: p :: q else if b = 1 then p.app (.node 48 t .nil) :: q else t.app (.leaf 4 (List.replicate k 120) .nil) :: p :: q
theorem gst_one (b : Int) (k : Nat) (t : Fo) : gst b k [t] = if b = 0 then [.nil, t] else [t.app (.leaf 4 (List.replicate k 120) .nil)] := rfl
theorem gst_two (b : Int) (k : Nat) (t p : Fo) (q : List Fo) : gst b k (t :: p :: q) = if b = 0 ∧ q.length < 10 then .nil :: t :: p :: q else if b = 1 then p.app (.node 48 t .nil) :: q else t.app (.leaf 4 (List.replicate k 120) .nil) :: p :: q := rfl
def gall (b k : Nat → Int) : Nat → List Fo
  | 0 => [.nil]
  | i + 1 => gst (b i) (k i).toNat (gall b k i)
/-- All that is open is closed. -/
def gcl (t : Fo) : List Fo → Fo
  | [] => t
  | p :: q => gcl (p.app (.node 48 t .nil)) q
def GI : List Fo → Prop
  | [] => True
  | t :: r => t.WF ∧ t.dep + r.length ≤ 12 ∧ r.length ≤ 11 ∧ GI r
def tot : List Fo → Nat
  | [] => 0
  | t :: r => t.enc.length + 6 + tot r
theorem short_le (m : Nat) : (short m).length ≤ 5 := by
  rw [short_len]; have := kb_pos m
  by_cases h : m < 128
  · rw [if_pos h]; omega
  · rw [if_neg h]; omega
theorem enc_leaf (t : Fo) (k : Nat) : (t.app (.leaf 4 (List.replicate k 120) .nil)).enc = t.enc ++ put 4 (List.replicate k 120) := by
  rw [Fo.enc_app]; show _ ++ (put 4 _ ++ []) = _; rw [List.append_nil]
theorem enc_node (p t : Fo) : (p.app (.node 48 t .nil)).enc = p.enc ++ put 48 t.enc := by
  rw [Fo.enc_app]; show _ ++ (put 48 _ ++ []) = _; rw [List.append_nil]
theorem leaf_facts (t : Fo) (k : Nat) (hw : t.WF) (hk : k < 200) : (t.app (.leaf 4 (List.replicate k 120) .nil)).WF ∧ (t.app (.leaf 4 (List.replicate k 120) .nil)).dep = max t.dep 1 ∧ (t.app (.leaf 4 (List.replicate k 120) .nil)).enc.length ≤ t.enc.length + k + 6 := by
  refine ⟨Fo.WF_app _ _ hw ⟨rfl, by omega, rfl, by rw [List.length_replicate]; omega, trivial⟩, ?_, ?_⟩
  · rw [Fo.dep_app, Fo.dep_leaf]; simp [Fo.dep]
  · rw [enc_leaf, List.length_append, put_len, List.length_replicate]
    have := short_le k; omega
theorem node_facts (p t : Fo) (hp : p.WF) (ht : t.WF) (hl : t.enc.length < 4294967296) : (p.app (.node 48 t .nil)).WF ∧ (p.app (.node 48 t .nil)).dep = max p.dep (t.dep + 1) ∧ (p.app (.node 48 t .nil)).enc.length ≤ p.enc.length + t.enc.length + 6 := by
  refine ⟨Fo.WF_app _ _ hp ⟨rfl, by omega, rfl, hl, ht, trivial⟩, ?_, ?_⟩
  · rw [Fo.dep_app, Fo.dep_node]; simp [Fo.dep]
  · rw [enc_node, List.length_append, put_len]
    have := short_le t.enc.length; omega
theorem gst_facts (b : Int) (k : Nat) (hk : k < 200) : ∀ (st : List Fo), st ≠ [] → GI st → tot st < 4000000000 → gst b k st ≠ [] ∧ GI (gst b k st) ∧ tot (gst b k st) ≤ tot st + 206
  | [], h, _, _ => absurd rfl h
  | [t], _, ⟨h1, h2, h3, h4⟩, ht => by
    rw [gst_one]
    by_cases hb : b = 0
    · rw [if_pos hb]
      exact ⟨by simp, ⟨trivial, by simp [Fo.dep], by simp, h1, h2, h3, h4⟩, by simp [tot, Fo.enc]; omega⟩
    · rw [if_neg hb]
      obtain ⟨l1, l2, l3⟩ := leaf_facts t k h1 hk
      exact ⟨by simp, ⟨l1, by rw [l2]; simp at h2 ⊢; omega, by simp, trivial⟩, by simp only [tot] at *; omega⟩
  | t :: p :: q, _, ⟨h1, h2, h3, p1, p2, p3, h4⟩, ht => by
    rw [gst_two]
    rw [List.length_cons] at h2 h3
    simp only [tot] at ht
    by_cases hb : b = 0 ∧ q.length < 10
    · rw [if_pos hb]
      exact ⟨by simp, ⟨trivial, by simp [Fo.dep]; omega, by simp; omega, h1, by rw [List.length_cons]; exact h2, by rw [List.length_cons]; exact h3, p1, p2, p3, h4⟩, by simp only [tot, Fo.enc, List.length_nil]; omega⟩
    · rw [if_neg hb]
      by_cases hb1 : b = 1
      · rw [if_pos hb1]
        obtain ⟨n1, n2, n3⟩ := node_facts p t p1 h1 (by omega)
        exact ⟨by simp, ⟨n1, by rw [n2]; omega, p3, h4⟩, by simp only [tot]; omega⟩
      · rw [if_neg hb1]
        obtain ⟨l1, l2, l3⟩ := leaf_facts t k h1 hk
        exact ⟨by simp, ⟨l1, by rw [l2, List.length_cons]; omega, by rw [List.length_cons]; exact h3, p1, p2, p3, h4⟩, by simp only [tot]; omega⟩
theorem gall_facts (b k : Nat → Int) (hk : ∀ i, 0 ≤ k i ∧ k i < 200) : ∀ i, i ≤ 60 → gall b k i ≠ [] ∧ GI (gall b k i) ∧ tot (gall b k i) ≤ 6 + 206 * i
  | 0, _ => ⟨by simp [gall], ⟨trivial, by simp [Fo.dep], by simp, trivial⟩, by simp [gall, tot, Fo.enc]⟩
  | i + 1, h => by
    obtain ⟨h1, h2, h3⟩ := gall_facts b k hk i (by omega)
    have := hk i
    obtain ⟨g1, g2, g3⟩ := gst_facts (b i) (k i).toNat (by omega) (gall b k i) h1 h2 (by omega)
    exact ⟨g1, g2, by show tot (gst (b i) (k i).toNat (gall b k i)) ≤ _; omega⟩
theorem gcl_facts : ∀ (q : List Fo) (t : Fo), GI (t :: q) → tot (t :: q) < 4000000000 → (gcl t q).WF ∧ (gcl t q).dep ≤ 12 ∧ (gcl t q).enc.length + 6 ≤ tot (t :: q)
  | [], t, ⟨h1, h2, _, _⟩, _ => ⟨h1, by simpa [gcl] using h2, by simp [gcl, tot]⟩
  | p :: q, t, ⟨h1, h2, h3, p1, p2, p3, h4⟩, ht => by
    rw [List.length_cons] at h2 h3
    simp only [tot] at ht
    obtain ⟨n1, n2, n3⟩ := node_facts p t p1 h1 (by omega)
    obtain ⟨g1, g2, g3⟩ := gcl_facts q (p.app (.node 48 t .nil)) ⟨n1, by rw [n2]; omega, p3, h4⟩ (by simp only [tot]; omega)
    refine ⟨g1, g2, ?_⟩
    show (gcl (p.app (.node 48 t .nil)) q).enc.length + 6 ≤ _
    simp only [tot] at *; omega
/-- The element that is grown. -/
def grow : List Fo → Fo
  | [] => .nil
  | t :: q => .node 48 (gcl t q) .nil
theorem grow_facts {st : List Fo} (h0 : st ≠ []) (h1 : GI st) (h2 : tot st ≤ 20000) : (grow st).WF ∧ 1 ≤ (grow st).dep ∧ (grow st).dep ≤ 13 ∧ (grow st).enc.length ≤ 20006 ∧ ∃ t cs, grow st = .node t cs .nil := by
  cases st with
  | nil => exact absurd rfl h0
  | cons t q =>
    obtain ⟨g1, g2, g3⟩ := gcl_facts q t h1 (by omega)
    have hd : (grow (t :: q)).dep = (gcl t q).dep + 1 := by
      show (Fo.node 48 (gcl t q) .nil).dep = _
      rw [Fo.dep_node]; simp [Fo.dep]
    refine ⟨⟨rfl, by omega, rfl, by omega, g1, trivial⟩, by omega, by omega, ?_, _, _, rfl⟩
    show (put 48 (gcl t q).enc ++ []).length ≤ _
    rw [List.append_nil, put_len]
    have := short_le (gcl t q).enc.length; omega
end B5
end Go.Proofs.Ytepgkoafjeacnaa
