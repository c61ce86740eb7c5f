/- Texts on the program and on the document, joined: QuqC, QuqG, QuqH, QuqI. -/
import Derived.Test.YtonippapkmmkeaaDoorMa17
import Derived.Test.YtonippapkmmkeaaDoorMa16
import Derived.Test.YtonippapkmmkeaaDoorMa15
/- The program's Escape and value, walked. -/
namespace Go.Proofs.YtonippapkmmkeaaDoor
open Go.ChangeShapes Go.WideShapes Go.ChangeAt Go.RowKit K Q10
set_option linter.unusedVariables false

theorem Bld.new0 (w : World) : Bld w.heap.size w.heap.size [] (w.alloc (.cells #[.pointer none, .slice none 0 0] 108)) :=
  .inl ⟨Nat.le_refl _, _, rowNew w _, World.ownsRow_nil _ _ _ _, by simp [Value.ownBlock]⟩
theorem kp_bel {S : List Nat} {a b c : World} {B : Nat} (h : Kp S a b) (k : Below B b c) (hB : a.heap.size ≤ B) : Kp S a c :=
  ⟨k.os.trans h.os, k.tape.trans h.tape, k.output.trans h.output, Nat.le_trans h.size k.size, fun i hi hn => (k.block i (by omega)).trans (h.block i hi hn)⟩
theorem own_kp {w w' : World} {B : Nat} {T : TypeId} {n : Nat} {v : Value} {m : Nat} {xs : List Value} (h : w.ownsRow B T n v m xs) {S : List Nat} (k : Kp S w w') (hS : ∀ x ∈ S, x < B) : w'.ownsRow B T n v m xs := by
  refine ⟨h.1, ?_⟩
  rcases h.2 with hn | ⟨g, cap, cur, h1, h2, h3, h4⟩
  · exact .inl hn
  · exact .inr ⟨g, cap, cur, h1, h2, k.heap h3 (fun hm => by have := hS _ hm; omega), h4⟩
theorem bld_kp {w w' : World} {B b : Nat} {l : List UInt8} (h : Bld B b l w) {S : List Nat} (k : Kp S w w') (hS : ∀ x ∈ S, x < B) : Bld B b l w' := by
  unfold Bld at *
  rcases h with ⟨hB, v, hbk, hown, hne⟩ | ⟨hB, v, hbk, hown, hne⟩
  · exact .inl ⟨hB, v, k.heap hbk (fun hm => by have := hS _ hm; omega), own_kp hown k hS, hne⟩
  · exact .inr ⟨hB, v, k.heap hbk (fun hm => by have := hS _ hm; omega), own_kp hown k hS, hne⟩
def EcRel (l : List UInt8) (w : World) (g : Nat) (v4 v7 : Value) (wr : World) : Prop :=
  ∃ p, p + g = l.length ∧ v7 = .int .i64 (p : Nat) ∧ Bld w.heap.size w.heap.size (esc (l.take p)) wr ∧ Below w.heap.size w wr
/-! ### A value -/
inductive VaAt (s : List UInt8) : Prop
  | nil (h : s = [])
  | stop (h0 : byt s 0 = 34 ∨ (byt s 0 ≠ 34 ∧ byt s 0 = 93)) (hne : s.isEmpty = false) (hpos : 0 < s.length) (e : vaP s = ([], s))
  | esc (h0 : byt s 0 = 92) (h1 : spN (byt s 1) = true) (hne : s.isEmpty = false) (hpos : 1 < s.length) (e : vaP s = ((s.drop 1).take 1 ++ (vaP ((s.drop 1).drop 1)).1, (vaP ((s.drop 1).drop 1)).2))
  | one (h34 : byt s 0 ≠ 34) (h93 : byt s 0 ≠ 93) (hk : byt s 0 ≠ 92 ∨ (byt s 0 = 92 ∧ s.length ≤ 1) ∨ (byt s 0 = 92 ∧ 1 < s.length ∧ spN (byt s 1) = false)) (hne : s.isEmpty = false) (hpos : 0 < s.length) (e : vaP s = (s.take 1 ++ (vaP (s.drop 1)).1, (vaP (s.drop 1)).2))
theorem u8n {a : UInt8} {n : Nat} (h : n < 256) : a.toNat = n ↔ a = UInt8.ofNat n := by
  constructor
  · intro e; apply UInt8.toNat_inj.1; rw [e]; simp; omega
  · rintro rfl; simp; omega
theorem va_all (s : List UInt8) : VaAt s := by
  cases s with
  | nil => exact .nil rfl
  | cons b t =>
    have hb : byt (b :: t) 0 = b.toNat := rfl
    by_cases h34 : b = 34
    · subst h34; refine .stop (.inl rfl) rfl (by simp) ?_
      cases t <;> simp [vaP]
    by_cases h93 : b = 93
    · subst h93; refine .stop (.inr ⟨fun e => absurd (show (93 : Nat) = 34 from e) (by decide), rfl⟩) rfl (by simp) ?_
      cases t <;> simp [vaP]
    have n34 : byt (b :: t) 0 ≠ 34 := fun e => h34 (UInt8.toNat_inj.1 e)
    have n93 : byt (b :: t) 0 ≠ 93 := fun e => h93 (UInt8.toNat_inj.1 e)
    have hor : ¬ (b = 34 ∨ b = 93) := fun e => e.elim h34 h93
    cases t with
    | nil =>
      refine .one n34 n93 ?_ rfl (by simp) (by simp [vaP, hor])
      by_cases h92 : b = 92
      · exact .inr (.inl ⟨by subst h92; rfl, by simp⟩)
      · exact .inl (fun e => h92 (UInt8.toNat_inj.1 e))
    | cons c q =>
      have hc : spN (byt (b :: c :: q) 1) = spc c := by rw [spc_of]; rfl
      by_cases h92 : b = 92
      · subst h92
        cases hs : spc c
        · exact .one n34 n93 (.inr (.inr ⟨rfl, by simp, by rw [hc]; exact hs⟩)) rfl (by simp) (by simp [vaP, hs])
        · exact .esc rfl (by rw [hc]; exact hs) rfl (by simp) (by simp [vaP, hs])
      · exact .one n34 n93 (.inl (fun e => h92 (UInt8.toNat_inj.1 e))) rfl (by simp) (by simp [vaP, hor, h92])
def VcRel (b : Nat) (s0 : List UInt8) (f : Bool) (w : World) (g : Nat) (wr : World) : Prop :=
  ∃ s out, s.length = g ∧ vaP s0 = (out ++ (vaP s).1, (vaP s).2) ∧ out.length + s.length ≤ s0.length ∧ RQ wr b s f ∧ Bld w.heap.size w.heap.size out wr ∧ Kp [b] w wr
set_option maxRecDepth 100000 in
set_option maxHeartbeats 2000000 in
theorem rvalue_walk0 (b : Nat) (s0 : List UInt8) (f : Bool) (hs : s0.length ≤ 1000000000) (w : World) (h : RQ w b s0 f) :
    Calls Tryd.prog 83 #[.pointer (some ⟨b, 0, none⟩)] w fun e w' => e = .returned (.string (bs (vaP s0).1)) ∧ Kp [b] w w' ∧ RQ w' b (vaP s0).2 f := by
  have hbf := Bld.new0 w
  have hlt : b < w.heap.size := lt_of_block h
  have a0 : Below w.heap.size w (w.alloc (.cells #[.pointer none, .slice none 0 0] 108)) := (Below.refl _ _).alloc (Nat.le_refl _) _
  have hka : Kp [b] w (w.alloc (.cells #[.pointer none, .slice none 0 0] 108)) := (Kp.refl _ _).alloc _
  have hra : RQ (w.alloc (.cells #[.pointer none, .slice none 0 0] 108)) b s0 f := (a0.block b hlt).trans h
  go_enter Tryd.func83, Tryd.ntmps83
  go_wp2_with fail
  go_loopg [] s0.length (fun g wr => VcRel b s0 f w g wr)
  case atStart => exact ⟨s0, [], rfl, rfl, by simp, hra, hbf, hka⟩
  case round =>
    obtain ⟨s, out, hg, hv, hlen, hr, hB, hk⟩ := hrel
    clear hbf hka hra a0 h
    have HK := Lib.hid hk
    have HD := Lib.hid hB
    have HR := Lib.hid hr
    have HL := Lib.hid hlen
    have HG := Lib.hid hg
    have HBN := Lib.hid (show ∀ x ∈ [b], x < w.heap.size by simpa using hlt)
    have hls : s.length ≤ 1000000000 := by omega
    obtain ⟨c0, c1, f0, f1⟩ := hr.cells
    clear hk hB hr hg hlen f0 f1 c1
    cases va_all s with
    | nil h0 =>
      subst h0
      have HV := Lib.hid (show vaP s0 = (out, []) by rw [hv]; simp [vaP])
      have HS := Lib.hid (bstr _ _ _ _ HD.out (by have := HK.out.size; omega))
      clear hv
      go_wp2_with fail
      refine HS.out.mono ?_
      rintro e w1 ⟨rfl, b1⟩
      go_wp2
      go_ret
      rw [HV.out]
      exact ⟨rfl, kp_bel HK.out b1 (Nat.le_refl _), (b1.block b hlt).trans HR.out⟩
    | stop h0 hne hpos e =>
      have HV := Lib.hid (show vaP s0 = (out, s) by rw [hv, e]; simp)
      have HS := Lib.hid (bstr _ _ _ _ HD.out (by have := HK.out.size; omega))
      clear hv e
      rcases h0 with h0 | ⟨h1, h0⟩
      · go_wp2_with fail
        refine HS.out.mono ?_
        rintro e w1 ⟨rfl, b1⟩
        go_wp2
        go_ret
        rw [HV.out]
        exact ⟨rfl, kp_bel HK.out b1 (Nat.le_refl _), (b1.block b hlt).trans HR.out⟩
      · clear h1
        go_wp2_with fail
        refine HS.out.mono ?_
        rintro e w1 ⟨rfl, b1⟩
        go_wp2
        go_ret
        rw [HV.out]
        exact ⟨rfl, kp_bel HK.out b1 (Nat.le_refl _), (b1.block b hlt).trans HR.out⟩
    | esc h0 h1 hne hpos e =>
      have HV := Lib.hid (show vaP s0 = ((out ++ (s.drop 1).take 1) ++ (vaP ((s.drop 1).drop 1)).1, (vaP ((s.drop 1).drop 1)).2) by rw [hv, e]; simp)
      have HC1 := Lib.hid (rcut_walk b s f 1 (by omega) (by omega) wr HR.out)
      have HC2 := Lib.hid (fun w1 h => rcut_walk b (s.drop 1) f 1 (by rw [List.length_drop]; omega) (by rw [List.length_drop]; omega) w1 h)
      have HE := Lib.hid (fun w1 => isescaped_walk (byt s 1) w1)
      rw [h1] at HE
      have e4 : (1 : Int) < ((s.length : Nat) : Int) := by omega
      have hpos0 : 0 < s.length := by omega
      clear hv e h1
      go_wp2_with fail
      refine (HE.out _).mono ?_
      rintro e w1 ⟨rfl, rfl⟩
      go_wp2_with fail
      refine HC1.out.mono ?_
      rintro e w1 ⟨rfl, k1, r1⟩
      have hD1 := bld_kp HD.out k1 HBN.out
      have hk1 := HK.out.trans k1
      clear k1 c0
      go_wp2_with fail
      refine (HC2.out _ r1).mono ?_
      rintro e w2 ⟨rfl, k2, r2⟩
      have hD2 := bld_kp hD1 k2 HBN.out
      have hk2 := hk1.trans k2
      clear k2 hD1 hk1 r1
      go_wp2_with fail
      refine (wstrB _ _ out _ _ hD2 (by have := HL.out; simp; omega) (by have := hk2.size; omega)).mono ?_
      rintro e w3 ⟨rfl, hD3, b3⟩
      have hk3 := kp_bel hk2 b3 (Nat.le_refl _)
      have hr3 : RQ w3 b _ f := (b3.block b hlt).trans r2
      have HK3 := Lib.hid hk3
      have HD3 := Lib.hid hD3
      have HR3 := Lib.hid hr3
      clear hk2 hD2 b3 r2 hk3 hD3 hr3
      go_wp2
      go_roundg ((s.drop 1).drop 1).length
      case measure => have := HG.out; simp; omega
      case rel => exact ⟨_, _, rfl, HV.out, by have := HL.out; simp; omega, HR3.out, by simpa only [List.drop_one] using HD3.out, HK3.out⟩
    | one h34 h93 hk hne hpos e =>
      have HV := Lib.hid (show vaP s0 = ((out ++ s.take 1) ++ (vaP (s.drop 1)).1, (vaP (s.drop 1)).2) by rw [hv, e]; simp)
      have HC1 := Lib.hid (fun w1 h => rcut_walk b s f 1 (by omega) (by omega) w1 h)
      have e1 : (((byt s 0 : Nat) : Int) != 34) = true := by rw [bne_iff_ne]; omega
      have e2 : (((byt s 0 : Nat) : Int) != 93) = true := by rw [bne_iff_ne]; omega
      clear hv e h34 h93
      have fin : ∀ w1, wr = w1 → RQ w1 b s f ∧ Bld w.heap.size w.heap.size out w1 ∧ Kp [b] w w1 := fun w1 h => by subst h; exact ⟨HR.out, HD.out, HK.out⟩
      have HF := Lib.hid fin
      clear fin
      rcases hk with hk | ⟨hk, hk1⟩ | ⟨hk, hk1, hk2⟩
      · have e3 : (((byt s 0 : Nat) : Int) == 92) = false := by rw [beq_eq_false_iff_ne]; omega
        clear hk
        go_wp2_with fail
        refine (HC1.out _ HR.out).mono ?_
        rintro e w2 ⟨rfl, k2, r2⟩
        have hD2 := bld_kp HD.out k2 HBN.out
        have hk2 := HK.out.trans k2
        clear k2
        go_wp2_with fail
        refine (wstrB _ _ out _ _ hD2 (by have := HL.out; simp; omega) (by have := hk2.size; omega)).mono ?_
        rintro e w3 ⟨rfl, hD3, b3⟩
        have hk3 := kp_bel hk2 b3 (Nat.le_refl _)
        have hr3 : RQ w3 b _ f := (b3.block b hlt).trans r2
        have HK3 := Lib.hid hk3
        have HD3 := Lib.hid hD3
        have HR3 := Lib.hid hr3
        clear hk2 hD2 b3 r2 hk3 hD3 hr3
        go_wp2
        go_roundg (s.drop 1).length
        case measure => have := HG.out; simp; omega
        case rel => exact ⟨_, _, rfl, HV.out, by have := HL.out; simp; omega, HR3.out, by simpa only [List.drop_one] using HD3.out, HK3.out⟩
      · have e4 : ¬ (1 : Int) < ((s.length : Nat) : Int) := by omega
        clear hk1 e1 e2
        go_wp2_with fail
        refine (HC1.out _ HR.out).mono ?_
        rintro e w2 ⟨rfl, k2, r2⟩
        have hD2 := bld_kp HD.out k2 HBN.out
        have hk2 := HK.out.trans k2
        clear k2
        go_wp2_with fail
        refine (wstrB _ _ out _ _ hD2 (by have := HL.out; simp; omega) (by have := hk2.size; omega)).mono ?_
        rintro e w3 ⟨rfl, hD3, b3⟩
        have hk3 := kp_bel hk2 b3 (Nat.le_refl _)
        have hr3 : RQ w3 b _ f := (b3.block b hlt).trans r2
        have HK3 := Lib.hid hk3
        have HD3 := Lib.hid hD3
        have HR3 := Lib.hid hr3
        clear hk2 hD2 b3 r2 hk3 hD3 hr3
        go_wp2
        go_roundg (s.drop 1).length
        case measure => have := HG.out; simp; omega
        case rel => exact ⟨_, _, rfl, HV.out, by have := HL.out; simp; omega, HR3.out, by simpa only [List.drop_one] using HD3.out, HK3.out⟩
      · have e4 : (1 : Int) < ((s.length : Nat) : Int) := by omega
        have HE := Lib.hid (fun w1 => isescaped_walk (byt s 1) w1)
        rw [hk2] at HE
        clear hk2 e1 e2
        go_wp2_with fail
        refine (HE.out _).mono ?_
        rintro e w1 ⟨rfl, rfl⟩
        go_wp2_with fail
        refine (HC1.out _ HR.out).mono ?_
        rintro e w2 ⟨rfl, k2, r2⟩
        have hD2 := bld_kp HD.out k2 HBN.out
        have hk2 := HK.out.trans k2
        clear k2
        go_wp2_with fail
        refine (wstrB _ _ out _ _ hD2 (by have := HL.out; simp; omega) (by have := hk2.size; omega)).mono ?_
        rintro e w3 ⟨rfl, hD3, b3⟩
        have hk3 := kp_bel hk2 b3 (Nat.le_refl _)
        have hr3 : RQ w3 b _ f := (b3.block b hlt).trans r2
        have HK3 := Lib.hid hk3
        have HD3 := Lib.hid hD3
        have HR3 := Lib.hid hr3
        clear hk2 hD2 b3 r2 hk3 hD3 hr3
        go_wp2
        go_roundg (s.drop 1).length
        case measure => have := HG.out; simp; omega
        case rel => exact ⟨_, _, rfl, HV.out, by have := HL.out; simp; omega, HR3.out, by simpa only [List.drop_one] using HD3.out, HK3.out⟩
theorem rvalue_walk (b : Nat) (r : Option (List UInt8)) (hs : Rl 1000000000 r) (w : World) (h : RO w b r) :
    Calls Tryd.prog 83 #[.pointer (some ⟨b, 0, none⟩)] w fun e w' => e = .returned (.string (bs (vaP (rst r)).1)) ∧ Kp [b] w w' ∧ RO w' b (r.map fun s => (vaP s).2) := by
  refine (rvalue_walk0 b (rst r) r.isNone hs w h).mono ?_
  rintro e w' ⟨h1, h2, h3⟩
  refine ⟨h1, h2, ?_⟩
  cases r with
  | none => exact h3
  | some s => exact h3
end Go.Proofs.YtonippapkmmkeaaDoor
/- The program's write and Print of structured data, walked. -/
namespace Go.Proofs.YtonippapkmmkeaaDoor
open Go.ChangeShapes Go.WideShapes Go.ChangeAt Go.RowKit K Q10 U4
set_option linter.unusedVariables false

theorem lt_of_bld {B b : Nat} {l : List UInt8} {w : World} (h : Bld B b l w) : b < w.heap.size := by
  unfold Bld at h
  rcases h with ⟨hB, v, hbk, _⟩ | ⟨hB, v, hbk, _⟩
  · exact lt_of_block hbk
  · exact lt_of_block hbk
theorem Eb.oth {w w' : World} {b k : Nat} {id : List UInt8} {v : Value} (h : Eb 30 w k id v) (o : Oth b w w') (hk : k ≠ b) : Eb 30 w' k id v := (o k _ _ _ h (by decide) hk).trans h
/-- A param in a block. -/
def Pb (w : World) (k : Nat) (p : Pm) : Prop := w.heap[k]? = some (.cells #[.string (bs p.n), .string (bs p.v)] 56 (0, 0))
theorem Pb.oth {w w' : World} {b k : Nat} {p : Pm} (h : Pb w k p) (o : Oth b w w') (hk : k ≠ b) : Pb w' k p := (o k _ _ _ h (by decide) hk).trans h
theorem Pb.cells {w : World} {k : Nat} {p : Pm} (h : Pb w k p) : w.cell? ⟨k, 0, none⟩ = some (.string (bs p.n)) ∧ w.cell? ⟨k, 1, none⟩ = some (.string (bs p.v)) := ⟨cellRow h 0, cellRow h 1⟩
theorem psT_stepk (l : List Pm) (i : Nat) (h : i < l.length) : psT (l.take (i + 1)) = psT (l.take i) ++ pmT (l.getD i nop) := by
  rw [takeD l i nop h, psT_app]; simp [psT]
theorem psT_le (l : List Pm) (i : Nat) : (psT (l.take i)).length ≤ (psT l).length := by
  have : psT l = psT (l.take i) ++ psT (l.drop i) := by rw [← psT_app, List.take_append_drop]
  rw [this, List.length_append]; omega
/-- What write leaves. -/
def WrPost (B b : Nat) (out : List UInt8) (x : El) (w : World) (e : Ending) (w' : World) : Prop :=
  e = .returned (.bool (decide ((out ++ elT x).length ≤ 65536))) ∧ Below B w w' ∧ ((out ++ elT x).length ≤ 65536 → Bld B b (out ++ elT x) w')
def WpRel (B b : Nat) (out : List UInt8) (x : El) (w : World) (g : Nat) (v : Value) (wr : World) : Prop :=
  ∃ i, i + g = x.ps.length ∧ v = .int .i64 (i : Nat) ∧ Bld B b (out ++ (91 :: (x.id ++ psT (x.ps.take i)))) wr ∧ Below B w wr
end Go.Proofs.YtonippapkmmkeaaDoor
/- The program's Print of structured data, walked. -/
namespace Go.Proofs.YtonippapkmmkeaaDoor
open Go.ChangeShapes Go.WideShapes Go.ChangeAt Go.RowKit K Q10 U4
set_option linter.unusedVariables false

theorem elsT_stepk (l : List El) (i : Nat) (h : i < l.length) : elsT (l.take (i + 1)) = elsT (l.take i) ++ elT (l.getD i noe) := by
  rw [takeD l i noe h, elsT_app]; simp [elsT]
theorem elsT_le (l : List El) (i : Nat) : (elsT (l.take i)).length ≤ (elsT l).length := by
  have : elsT l = elsT (l.take i) ++ elsT (l.drop i) := by rw [← elsT_app, List.take_append_drop]
  rw [this, List.length_append]; omega
def PkRel (l : List El) (w w1 : World) (g : Nat) (v : Value) (wr : World) : Prop :=
  ∃ i, i + g = l.length ∧ v = .int .i64 (i : Nat) ∧ (elsT (l.take i)).length ≤ 65536 ∧ Bld w1.heap.size w1.heap.size (elsT (l.take i)) wr ∧ Below w1.heap.size w1 wr
end Go.Proofs.YtonippapkmmkeaaDoor
/- The program's Get and Same of structured data, walked. -/
namespace Go.Proofs.YtonippapkmmkeaaDoor
open Go.ChangeShapes Go.WideShapes Go.ChangeAt Go.RowKit K Q10 U4
set_option linter.unusedVariables false

def eqPs (a b : List Pm) : Bool := decide (a = b)
def EpRel (xs ys : List Pm) (w : World) (g : Nat) (v8 : Value) (wr : World) : Prop :=
  ∃ i : Nat, i + g = xs.length ∧ v8 = .int .i64 (i : Nat) ∧ (∀ j, j < i → xs.getD j nop = ys.getD j nop) ∧ Dr w wr
theorem RdP.dr0 {w w' : World} {ao : Option Addr} {xs : List Pm} (h : RdP w ao xs) (k : Dr w w') : RdP w' ao xs := by
  obtain ⟨n, rfl⟩ := k; exact h
set_option maxRecDepth 100000 in
set_option maxHeartbeats 2000000 in
theorem eqparams_walk (xs ys : List Pm) (ao bo : Option Addr) (ca cb : Nat) (hl : xs.length ≤ 140737488351232) (hl2 : ys.length ≤ 140737488351232) (w : World) (hr : RdP w ao xs) (hs : RdP w bo ys) :
    Calls Tryd.prog 25 #[.slice ao xs.length ca, .slice bo ys.length cb] w fun e w' => e = .returned (.bool (eqPs xs ys)) ∧ Dr w w' := by
  by_cases hne : xs.length = ys.length
  rotate_left
  · have hb : (((xs.length : Nat) : Int) != ((ys.length : Nat) : Int)) = true := by rw [bne_iff_ne]; omega
    rw [show eqPs xs ys = false from decide_eq_false (fun e => hne (by rw [e]))]
    clear hne hr hs
    go_enter Tryd.func25, Tryd.ntmps25
    go_wp2
    go_ret
    exact ⟨rfl, Dr.refl w⟩
  have hb : (((xs.length : Nat) : Int) != ((ys.length : Nat) : Int)) = false := by rw [hne]; simp
  have HNE := Lib.hid hne
  have HR := Lib.hid (fun w1 (d : Dr w w1) => hr.dr0 d)
  have HS := Lib.hid (fun w1 (d : Dr w w1) => hs.dr0 d)
  clear hne hr hs
  go_enter Tryd.func25, Tryd.ntmps25
  go_wp2_with fail
  go_loopg [13] xs.length (fun g v8 wr => EpRel xs ys w g v8 wr)
  case atStart => exact ⟨0, by omega, rfl, by omega, Dr.refl w⟩
  case round =>
    obtain ⟨i, hi, rfl, hall, hd⟩ := hrel
    have HALL := Lib.hid hall
    have HD := Lib.hid hd
    clear hall hd
    cases gk with
    | zero =>
      obtain rfl : i = xs.length := by omega
      have HE := Lib.hid (show eqPs xs ys = true from decide_eq_true (pms_ext HNE.out HALL.out))
      go_wp2
      go_ret
      rw [HE.out]
      exact ⟨rfl, HD.out⟩
    | succ g =>
      have hlt : i < xs.length := by omega
      have hlt2 : i < ys.length := by have := HNE.out; omega
      have HX := Lib.hid (fun h : ¬ xs.getD i nop = ys.getD i nop => show eqPs xs ys = false from decide_eq_false (fun e => h (by rw [e])))
      have HY := Lib.hid (fun (h : xs.getD i nop = ys.getD i nop) (j : Nat) (hj : j < i + 1) => (show xs.getD j nop = ys.getD j nop by
        by_cases hji : j = i
        · rw [hji]; exact h
        · exact HALL.out j (by omega)))
      obtain ⟨x, hxe⟩ : ∃ x, xs.getD i nop = x := ⟨_, rfl⟩
      obtain ⟨y, hye⟩ : ∃ y, ys.getD i nop = y := ⟨_, rfl⟩
      obtain ⟨b, off, rfl, hbl, hc⟩ := (HR.out _ HD.out).at (by omega)
      obtain ⟨b', off', rfl, hbl', hc'⟩ := (HS.out _ HD.out).at (by omega)
      obtain ⟨c0, c1⟩ := hc i hlt
      obtain ⟨d0, d1⟩ := hc' i hlt2
      rw [hxe] at c0 c1
      rw [hye] at d0 d1
      rw [hxe, hye] at HX HY
      have hq := run_equal_param x y
      clear hxe hye hc hc'
      cases hxy : eqP x y
      · rw [hxy] at hq
        have HN := Lib.hid (HX.out (fun e => by rw [(eqP_iff x y).2 e] at hxy; cases hxy))
        clear HX HY hxy
        go_wp2_with fail
        go_quiet (fail)
        go_wp2
        go_ret
        rw [HN.out]
        exact ⟨rfl, HD.out.trans ⟨nq, rfl⟩⟩
      · rw [hxy] at hq
        have HN := Lib.hid (HY.out ((eqP_iff x y).1 hxy))
        clear HX HY hxy
        go_wp2_with fail
        go_quiet (fail)
        go_wp2
        go_roundg g
        case measure => omega
        case rel => exact ⟨i + 1, by omega, by simp, HN.out, HD.out.trans ⟨nq, rfl⟩⟩
theorem bs_eq (a b : List UInt8) : decide (bs a = bs b) = (a == b) := by
  rw [Bool.eq_iff_iff, decide_eq_true_iff, beq_iff_eq]
  exact ⟨fun h => bs_inj h, fun h => by rw [h]⟩
def eqE (x y : El) : Bool := decide (x = y)
theorem eqE_no {x y : El} (h : x.id ≠ y.id) : eqE x y = false := decide_eq_false (fun e => h (by rw [e]))
theorem eqE_yes {x y : El} (h : x.id = y.id) : eqE x y = eqPs x.ps y.ps := by
  obtain ⟨a, b⟩ := x
  obtain ⟨a', b'⟩ := y
  simp only at h
  subst h
  simp [eqE, eqPs]
theorem two_els (w : World) (x y : El) (ao bo : Option Addr) (ca cb : Nat) : ∃ w0, (w.alloc (.cells #[.string (bs x.id), .slice ao x.ps.length ca] 30)).alloc (.cells #[.string (bs y.id), .slice bo y.ps.length cb] 30) = w0 ∧ Eb 30 w0 w.heap.size x.id (.slice ao x.ps.length ca) ∧ Eb 30 w0 (w.heap.size + 1) y.id (.slice bo y.ps.length cb) ∧ Below w.heap.size w w0 := by
  have a1 := alloc_in' w (.cells #[.string (bs x.id), .slice ao x.ps.length ca] 30)
  have a2 := alloc_in' (w.alloc (.cells #[.string (bs x.id), .slice ao x.ps.length ca] 30)) (.cells #[.string (bs y.id), .slice bo y.ps.length cb] 30)
  have h1 := Eb.new 30 w x.id (.slice ao x.ps.length ca)
  have h2 := Eb.new 30 (w.alloc (.cells #[.string (bs x.id), .slice ao x.ps.length ca] 30)) y.id (.slice bo y.ps.length cb)
  rw [show (w.alloc (.cells #[.string (bs x.id), .slice ao x.ps.length ca] 30)).heap.size = w.heap.size + 1 by simp] at h2
  exact ⟨_, rfl, h1.below a2, h2, a1.trans (a2.mono a1.size)⟩
set_option maxRecDepth 100000 in
set_option maxHeartbeats 2000000 in
theorem sameelement_walk (x y : El) (ao bo : Option Addr) (ca cb : Nat) (hl : x.ps.length ≤ 140737488351232) (hl2 : y.ps.length ≤ 140737488351232) (w : World) (hr : RdP w ao x.ps) (hs : RdP w bo y.ps) :
    Calls Tryd.prog 14 #[.agg #[.string (bs x.id), .slice ao x.ps.length ca], .agg #[.string (bs y.id), .slice bo y.ps.length cb]] w fun e w' => e = .returned (.bool (eqE x y)) ∧ Below w.heap.size w w' := by
  obtain ⟨w0, hw0, hx, hy, b0⟩ := two_els w x y ao bo ca cb
  obtain ⟨xi, xs⟩ := x
  obtain ⟨yi, ys⟩ := y
  simp only at *
  have HW0 := Lib.hid hw0
  have HE := Lib.hid (eqparams_walk xs ys ao bo ca cb hl hl2 w0 (hr.below b0) (hs.below b0))
  obtain ⟨x0, x1⟩ := hx.cells
  obtain ⟨y0, y1⟩ := hy.cells
  have hd := bs_eq xi yi
  clear hw0 hr hs hx hy
  by_cases hi : xi = yi
  · subst hi
    have HN := Lib.hid (eqE_yes (x := ⟨xi, xs⟩) (y := ⟨xi, ys⟩) rfl)
    clear hd
    go_enter Tryd.func14, Tryd.ntmps14
    go_wp2_with fail
    rw [HW0.out]
    go_wp2_with fail
    refine HE.out.mono ?_
    rintro e w1 ⟨rfl, d1⟩
    obtain ⟨n1, rfl⟩ := d1
    go_wp2
    go_ret
    rw [HN.out]
    exact ⟨rfl, ⟨b0.os, b0.tape, b0.output, b0.size, b0.block⟩⟩
  · have hb : (xi == yi) = false := beq_eq_false_iff_ne.2 hi
    rw [hb] at hd
    have HN := Lib.hid (eqE_no (x := ⟨xi, xs⟩) (y := ⟨yi, ys⟩) hi)
    clear hi
    go_enter Tryd.func14, Tryd.ntmps14
    go_wp2_with fail
    rw [HW0.out]
    go_wp2
    go_ret
    rw [HN.out]
    exact ⟨rfl, b0⟩
end Go.Proofs.YtonippapkmmkeaaDoor
