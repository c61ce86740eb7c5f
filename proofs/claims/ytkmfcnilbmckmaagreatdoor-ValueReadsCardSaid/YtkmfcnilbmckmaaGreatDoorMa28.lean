/- Texts on the program and on the document, joined: Pts, BerB, ValJ. -/
import Derived.Test.YtkmfcnilbmckmaaGreatDoorMa01
import Derived.Below
import Derived.Laws.OwnMore
import Derived.Laws.AppendOwn
import Derived.Deep.Onto
import Derived.Test.YtkmfcnilbmckmaaGreatDoorMa07
import Derived.Test.YtkmfcnilbmckmaaGreatDoorMa08
import Derived.Test.YtkmfcnilbmckmaaGreatDoorMa23
import Derived.Test.YtkmfcnilbmckmaaGreatDoorMa24
import Derived.Test.YtkmfcnilbmckmaaGreatDoorMa10
/- A list of pairs (a number, a text) that a call made itself: its cells, and what keeps them. Of no program. -/
namespace Go.Proofs.YtkmfcnilbmckmaaGreatDoor
open Go.RowKit
namespace K

def pairs (ps : List (Nat × List UInt8)) : List Value := ps.flatMap fun p => [Value.int .i64 (p.1 : Nat), Value.string (bs p.2)]
theorem pairs_app (a b : List (Nat × List UInt8)) : pairs (a ++ b) = pairs a ++ pairs b := by simp [pairs]
theorem pairs_len (ps : List (Nat × List UInt8)) : (pairs ps).length = ps.length * 2 := by
  induction ps with
  | nil => rfl
  | cons p ps ih =>
    show ([Value.int .i64 (p.1 : Nat), Value.string (bs p.2)] ++ pairs ps).length = _
    rw [List.length_append, ih, List.length_cons]; simp; omega
theorem pairs_get : ∀ (ps : List (Nat × List UInt8)) (i : Nat), i < ps.length → (pairs ps)[i * 2]? = some (.int .i64 ((ps.getD i (0, [])).1 : Nat)) ∧ (pairs ps)[i * 2 + 1]? = some (.string (bs (ps.getD i (0, [])).2))
  | [], i, h => by simp at h
  | p :: ps, 0, _ => by constructor <;> rfl
  | p :: ps, i + 1, h => by
    have := pairs_get ps i (by simpa using h)
    have e : pairs (p :: ps) = Value.int .i64 (p.1 : Nat) :: Value.string (bs p.2) :: pairs ps := rfl
    rw [e, show (i + 1) * 2 = i * 2 + 1 + 1 by omega]
    simpa [List.getD] using this
/-- A slice that the call made itself, behind block B, of these pairs; T is the type of its elements. -/
def OwnP (w : World) (B : Nat) (T : TypeId) (v : Value) (ps : List (Nat × List UInt8)) : Prop := w.ownsRow B T 2 v ps.length (pairs ps)
theorem OwnP.nil (w : World) (B : Nat) (T : TypeId) : OwnP w B T (.slice none 0 0) [] := World.ownsRow_nil w B T 2
theorem OwnP.below {w w' : World} {B : Nat} {T : TypeId} {v : Value} {ps : List (Nat × List UInt8)} (h : OwnP w B T v ps) (k : Below w.heap.size w w') : OwnP w' B T v ps := by
  refine ⟨h.1, ?_⟩
  rcases h.2 with hn | ⟨g, cap, cur, h1, h2, h3, h4⟩
  · exact .inl hn
  · exact .inr ⟨g, cap, cur, h1, h2, (k.block g (lt_of_block h3)).trans h3, h4⟩
theorem OwnP.mono {w : World} {B B' : Nat} {T : TypeId} {v : Value} {ps : List (Nat × List UInt8)} (h : OwnP w B T v ps) (hb : B' ≤ B) : OwnP w B' T v ps := World.ownsRow.mono h hb
theorem OwnP.form {w : World} {B : Nat} {T : TypeId} {v : Value} {ps : List (Nat × List UInt8)} (h : OwnP w B T v ps) :
    ∃ ao cap, v = .slice ao ps.length cap ∧ (ps.length = 0 ∨ ∃ g, ao = some ⟨g, 0, none⟩ ∧ B ≤ g ∧ g < w.heap.size ∧
      ∀ i, i < ps.length → w.cell? ⟨g, i * 2, none⟩ = some (.int .i64 ((ps.getD i (0, [])).1 : Nat)) ∧ w.cell? ⟨g, i * 2 + 1, none⟩ = some (.string (bs (ps.getD i (0, [])).2))) := by
  rcases h.2 with ⟨hv, h0⟩ | ⟨g, cap, cur, hv, hB, hh, hle, hm, hs, ht⟩
  · exact ⟨none, 0, by rw [hv, h0], .inl h0⟩
  · refine ⟨some ⟨g, 0, none⟩, cap, hv, .inr ⟨g, rfl, hB, lt_of_block hh, fun i hi => ?_⟩⟩
    obtain ⟨p1, p2⟩ := pairs_get ps i hi
    rw [cellRow hh, cellRow hh, ← Array.getElem?_toList, ← Array.getElem?_toList, ← p1, ← p2, ← ht]
    rw [List.getElem?_take_of_lt (by omega), List.getElem?_take_of_lt (by omega)]
    exact ⟨rfl, rfl⟩
theorem OwnP.put {w : World} {B : Nat} {T : TypeId} {v : Value} {ps : List (Nat × List UInt8)} {t : Nat} {b : List UInt8} (h : w.ownsRow B T 2 v (ps.length + 1) (pairs ps ++ [.int .i64 (t : Nat), .string (bs b)])) : OwnP w B T v (ps ++ [(t, b)]) := by
  unfold OwnP
  rw [List.length_append, pairs_app]
  exact h
end K
end Go.Proofs.YtkmfcnilbmckmaaGreatDoor
/- ber's head, Wrap, Parts, walked. -/
namespace Go.Proofs.YtkmfcnilbmckmaaGreatDoor
open Go.ChangeShapes Go.WideShapes Go.ChangeAt Go.RowKit K P1 B5
set_option linter.unusedVariables false

theorem run_conv_two {P : Program} (src e dst : TypeId) (hs : P.underlying src = some (.slice e)) (he : P.underlying e = some (.int .u8)) (hd : P.underlying dst = some .string) :
    ∀ (w : World) (x y : Int), (convert src dst (.slice (some ⟨w.heap.size, 0, none⟩) 2 2)).run P (w.alloc (.cells #[.int .u8 x, .int .u8 y] e)) = .ok (.string (bs [b8 x.toNat, b8 y.toNat])) (w.alloc (.cells #[.int .u8 x, .int .u8 y] e)) := by
  intro w x y
  rw [run_convert_bytes_arg (P := P) (w.alloc (.cells #[.int .u8 x, .int .u8 y] e)) src e hs he w.heap.size 0 2 2 [x, y] rfl _ dst hd]
  · rfl
  · intro i hi
    obtain rfl | rfl : i = 0 ∨ i = 1 := by omega
    · rw [cellRow (rowNew w _)]; rfl
    · rw [cellRow (rowNew w _)]; rfl
theorem wide_at {n k : Nat} (hn : n < 4294967296) (h1 : 1 ≤ k) (h4 : k ≤ kb n) : (k < kb n → wideS n k = [] ∧ wideC n k = 1) ∧ (k = kb n → wideS n k = pad k n ∧ wideC n k = 0) := by
  have hkb := kb_pos n
  constructor
  · intro h
    refine wide_big n k fun hlt => ?_
    have := kb_least n k hlt h1 (by omega)
    omega
  · intro h
    refine wide_yes n k h1 (by omega) ?_
    rw [h]; exact kb_fits n hn
def HdRel (n : Nat) (w : World) (g : Nat) (v5 v6 v7 : Value) (wr : World) : Prop :=
  ∃ k, k + g = kb n ∧ 1 ≤ k ∧ v5 = .int .i64 (k : Nat) ∧ v6 = .string (bs (wideS n k)) ∧ v7 = .int .i64 (wideC n k) ∧ Below w.heap.size w wr
set_option maxRecDepth 100000 in
theorem head_walk (t n : Nat) (ht : t < 256) (hn : n < 4294967296) (w : World) :
    Calls Tryz.prog 53 #[.int .i64 t, .int .i64 n] w fun e w' => e = .returned (.string (bs (b8 t :: short n))) ∧ Below w.heap.size w w' := by
  have hcv := run_conv_two (P := Tryz.prog) 53 5 9 Tryz.underlying53 Tryz.underlying5 Tryz.underlying9
  have et : IntKind.u8.wrap (t : Int) = (t : Int) := IntWalk.u8_in _ (by omega)
  by_cases h : n < 128
  · have e : b8 t :: short n = [b8 t, b8 n] := by unfold short; rw [if_pos h]
    rw [e]
    have en : IntKind.u8.wrap (n : Int) = (n : Int) := IntWalk.u8_in _ (by omega)
    have h' : (n : Int) < 128 := by omega
    clear hn e
    go_enter Tryz.func53, Tryz.ntmps53
    go_wp2
    go_ret
    exact ⟨by simp, (Below.refl _ _).alloc (Nat.le_refl _) _⟩
  · have e : b8 t :: short n = b8 t :: b8 (128 + kb n) :: pad (kb n) n := by unfold short; rw [if_neg h]
    have HE := Lib.hid e
    have hkb := kb_pos n
    have HW := Lib.hid (fun k h1 h4 => @wide_at n k hn h1 h4)
    have HO := Lib.hid (fun k w1 => octWide_walk (n : Int) k (by omega) (by omega) w1)
    have hpl := pad_length (kb n) n
    have hz0 : (128 : Int) ≤ (n : Nat) := by omega
    have hn2 : ((n : Nat) : Int) < 4294967296 := by omega
    clear e h hn
    generalize hN : ((n : Nat) : Int) = N at *
    go_enter Tryz.func53, Tryz.ntmps53
    go_wp2_with fail
    refine (HO.out 1 w).mono ?_
    rintro e w1 ⟨rfl, b1⟩
    go_wp2
    go_loopg [5, 6, 7] (kb n - 1) (fun g v5 v6 v7 wr => HdRel n w g v5 v6 v7 wr)
    case atStart => exact ⟨1, by omega, by omega, rfl, by rw [← hN]; rfl, by rw [← hN]; rfl, b1⟩
    case round =>
      obtain ⟨k, hkg, hk1, rfl, rfl, rfl, hbr⟩ := hrel
      rw [hN]
      obtain ⟨s1, s2⟩ := HW.out k hk1 (by omega)
      cases gk with
      | zero =>
        obtain rfl : k = kb n := by omega
        rw [(s2 rfl).1, (s2 rfl).2]
        clear s1 s2
        have e1 : IntKind.i64.wrap (128 + ((kb n : Nat) : Int)) = 128 + ((kb n : Nat) : Int) := IntWalk.i64_in _ (by omega)
        have e2 : IntKind.u8.wrap (128 + ((kb n : Nat) : Int)) = 128 + ((kb n : Nat) : Int) := IntWalk.u8_in _ (by omega)
        have e3 : (128 + ((kb n : Nat) : Int)).toNat = 128 + kb n := by omega
        have hcat : (9223372036854775807 < 2 + (pad (kb n) n).length) = False := eq_false (by omega)
        generalize pad (kb n) n = PD at *
        clear hkg hk1
        go_wp2
        go_ret
        exact ⟨by rw [HE.out]; simp, hbr.alloc hbr.size _⟩
      | succ g =>
        have hlt : k < kb n := by omega
        rw [(s1 hlt).1, (s1 hlt).2]
        clear s1 s2
        have hk1' := Lib.hid (show ((k : Nat) : Int) + 1 = ((k + 1 : Nat) : Int) by omega)
        go_wp2_with fail
        refine (HO.out _ wr).mono ?_
        rintro e w2 ⟨rfl, b2⟩
        go_wp2
        go_roundg g
        case measure => omega
        case rel => exact ⟨k + 1, by omega, by omega, by simp, by rw [hN, hk1'.out], by rw [hN, hk1'.out], hbr.trans (b2.mono hbr.size)⟩
set_option maxRecDepth 100000 in
theorem wrap_walk (t : Int) (b : List UInt8) (hb : b.length ≤ 140737488351232) (w : World) :
    Calls Tryz.prog 25 #[.int .i64 t, .string (bs b)] w fun e w' => e = .returned (.tuple #[.string (bs (wrT t b)), .int .i64 (wrE t b : Nat)]) ∧ Below w.heap.size w w' := by
  have hI := istag_walk t w
  cases hi : isTi t
  · have e1 : wrT t b = [] ∧ wrE t b = 1 := by unfold wrT wrE; rw [hi]; exact ⟨rfl, rfl⟩
    rw [e1.1, e1.2]
    rw [hi] at hI
    have HI := Lib.hid hI
    clear hI hi e1
    go_enter Tryz.func25, Tryz.ntmps25
    go_wp2_with fail
    refine HI.out.mono ?_
    rintro e w1 ⟨rfl, rfl⟩
    go_wp2
    go_ret2
    exact ⟨rfl, Below.refl _ _⟩
  · rw [hi] at hI
    have HI := Lib.hid hI
    obtain ⟨k, rfl, hk, _⟩ := isTi_nat hi
    by_cases hl : 16777216 < b.length
    · have e1 : wrT (k : Int) b = [] ∧ wrE (k : Int) b = 2 := by unfold wrT wrE; rw [hi, if_pos rfl, if_pos hl, if_pos rfl, if_pos hl]; exact ⟨rfl, rfl⟩
      rw [e1.1, e1.2]
      have hl' : (16777216 : Int) < ((b.length : Nat) : Int) := by omega
      clear hI hi e1 hl
      go_enter Tryz.func25, Tryz.ntmps25
      go_wp2_with fail
      refine HI.out.mono ?_
      rintro e w1 ⟨rfl, rfl⟩
      go_wp2
      go_ret2
      exact ⟨rfl, Below.refl _ _⟩
    · have e1 : wrT (k : Int) b = (b8 k :: short b.length) ++ b ∧ wrE (k : Int) b = 0 := by unfold wrT wrE; rw [hi, if_pos rfl, if_neg hl, if_pos rfl, if_neg hl]; exact ⟨by simp [put], rfl⟩
      rw [e1.1, e1.2]
      have HP := Lib.hid (fun w1 => head_walk k b.length hk (by omega) w1)
      have hl' : ((b.length : Nat) : Int) ≤ 16777216 := by omega
      have hsl : (b8 k :: short b.length).length ≤ 6 := by
        rw [List.length_cons, short_len]; have := kb_pos b.length
        by_cases h : b.length < 128
        · rw [if_pos h]; omega
        · rw [if_neg h]; omega
      clear hI hi e1 hl
      generalize b8 k :: short b.length = X at *
      have hcat : (9223372036854775807 < X.length + b.length) = False := eq_false (by omega)
      go_enter Tryz.func25, Tryz.ntmps25
      go_wp2_with fail
      refine HI.out.mono ?_
      rintro e w1 ⟨rfl, rfl⟩
      go_wp2_with fail
      refine (HP.out _).mono ?_
      rintro e x1 ⟨rfl, k1⟩
      go_wp2
      go_ret2
      exact ⟨rfl, k1⟩
end Go.Proofs.YtkmfcnilbmckmaaGreatDoor
/- value's body, Encode, walked. -/
namespace Go.Proofs.YtkmfcnilbmckmaaGreatDoor
open Go.ChangeShapes Go.WideShapes Go.ChangeAt Go.RowKit K P1 B5
set_option linter.unusedVariables false

theorem wr_of {k n : Int} {s : List UInt8} (h : V7.ckV k n s = true) : wrT k (V7.bdV k n s) = V7.enT k n s ∧ wrE k (V7.bdV k n s) = 0 := by
  obtain ⟨t1, t2, t3, _⟩ := V7.ck_tag h
  have hl := (V7.bd_len h).1
  have hi : isTi k = true := by
    unfold isTi
    rw [decide_eq_true (by omega : 0 ≤ k), decide_eq_true (by omega : k ≤ 255), t1]; rfl
  unfold wrT wrE
  rw [if_pos hi, if_pos hi, if_neg (by omega), if_neg (by omega), (V7.en_next h).1]
  exact ⟨rfl, rfl⟩
set_option maxRecDepth 100000 in
set_option maxHeartbeats 2000000 in
theorem body_walk (k n : Int) (s : List UInt8) (n0 : -9223372036854775808 ≤ n) (n1 : n ≤ 9223372036854775807) (h : V7.ckV k n s = true) (w : World) (T : Tabs w) :
    Calls Tryz.prog 26 #[.agg #[.int .i64 k, .int .i64 n, .string (bs s)]] w fun e w' => e = .returned (.string (bs (V7.bdV k n s))) ∧ Below w.heap.size w w' := by
  have hba := alloc_in w (.cells #[.int .i64 k, .int .i64 n, .string (bs s)] 24)
  cases V7.ways h with
  | int hk hs h0 h1 =>
    have HB : V7.bdV k n s = pn n := by unfold V7.bdV; rw [if_pos hk]
    rw [HB]
    have HN := Lib.hid (fun w1 => putnumber_walk n n0 n1 w1)
    clear HB h
    subst hk hs
    generalize pn n = P at *
    go_enter Tryz.func26, Tryz.ntmps26
    go_wp2_with fail
    refine (HN.out _).mono ?_
    rintro e w2 ⟨rfl, b2⟩
    go_wp2
    go_ret
    exact ⟨rfl, Below_in b2⟩
  | text hk hn hs =>
    have HB : V7.bdV k n s = s := by unfold V7.bdV; rw [if_neg (by omega), if_neg (by omega), if_neg (by omega)]
    rw [HB]
    clear HB h
    subst hn
    rcases hk with rfl | rfl
    all_goals
      go_enter Tryz.func26, Tryz.ntmps26
      go_wp2
      go_ret
      exact ⟨rfl, hba⟩
  | null hk hn hs =>
    have HB : V7.bdV k n s = s := by unfold V7.bdV; rw [if_neg (by omega), if_neg (by omega), if_neg (by omega)]
    rw [HB]
    clear HB h
    subst hn hk hs
    go_enter Tryz.func26, Tryz.ntmps26
    go_wp2
    go_ret
    exact ⟨rfl, hba⟩
  | addr hk hn hs =>
    have HB : V7.bdV k n s = s := by unfold V7.bdV; rw [if_neg (by omega), if_neg (by omega), if_neg (by omega)]
    rw [HB]
    clear HB h
    subst hn hk
    go_enter Tryz.func26, Tryz.ntmps26
    go_wp2
    go_ret
    exact ⟨rfl, hba⟩
  | oid hk hn l hl hs =>
    have HB : V7.bdV k n s = eb l := by unfold V7.bdV; rw [if_neg (by omega), if_neg (by omega), if_pos hk]; unfold V7.ob; rw [← hs, O6.arcs_put hl]; rfl
    rw [HB]
    have hsl : s.length ≤ 1000000 := by
      have h1 := O6.put_len l (O6.isArcs_le hl)
      have h2 := (O6.isArcs_len hl).2
      rw [← hs]; omega
    have hE := encode_walk s hsl _ (T.below hba)
    have h1 : enS s = eb l ∧ arE s = 0 := by
      have ha : O6.arcs s = some l := by rw [← hs]; exact O6.arcs_put hl
      unfold enS; rw [ha, (ar_some ha).2]; exact ⟨rfl, (ar_some ha).1⟩
    subst hn hk
    rw [h1.1, h1.2] at hE
    have HE := Lib.hid hE
    clear HB h hE h1 hl hs
    generalize eb l = B at *
    go_enter Tryz.func26, Tryz.ntmps26
    go_wp2_with fail
    refine HE.out.mono ?_
    rintro e w1 ⟨rfl, b1⟩
    go_wp2
    go_ret
    exact ⟨rfl, Below_in b1⟩
  | count hk hs h0 h1 =>
    have HB : V7.bdV k n s = un (V7.uu n) := by unfold V7.bdV; rw [if_neg (by omega), if_pos (by omega)]
    rw [HB]
    have HN := Lib.hid (fun w1 => putunsigned_walk (V7.uu n) (V7.uu_lt n) w1)
    have hu := u64_wrap n
    clear HB h
    subst hs
    generalize un (V7.uu n) = P at *
    generalize ((V7.uu n : Nat) : Int) = U at *
    rcases hk with rfl | rfl | rfl
    all_goals
      go_enter Tryz.func26, Tryz.ntmps26
      go_wp2_with fail
      refine (HN.out _).mono ?_
      rintro e w2 ⟨rfl, b2⟩
      go_wp2
      go_ret
      exact ⟨rfl, Below_in b2⟩
  | big hk hs =>
    have HB : V7.bdV k n s = un (V7.uu n) := by unfold V7.bdV; rw [if_neg (by omega), if_pos (by omega)]
    rw [HB]
    have HN := Lib.hid (fun w1 => putunsigned_walk (V7.uu n) (V7.uu_lt n) w1)
    have hu := u64_wrap n
    clear HB h
    subst hs hk
    generalize un (V7.uu n) = P at *
    generalize ((V7.uu n : Nat) : Int) = U at *
    go_enter Tryz.func26, Tryz.ntmps26
    go_wp2_with fail
    refine (HN.out _).mono ?_
    rintro e w2 ⟨rfl, b2⟩
    go_wp2
    go_ret
    exact ⟨rfl, Below_in b2⟩
set_option maxRecDepth 100000 in
set_option maxHeartbeats 2000000 in
theorem encode_walk7 (k n : Int) (s : List UInt8) (hs : s.length ≤ 1000000) (n0 : -9223372036854775808 ≤ n) (n1 : n ≤ 9223372036854775807) (w : World) (T : Tabs w) :
    Calls Tryz.prog 10 #[.agg #[.int .i64 k, .int .i64 n, .string (bs s)]] w fun e w' => e = .returned (.tuple #[.string (bs (V7.enT k n s)), .int .i64 (V7.ckE k n s : Nat)]) ∧ Below w.heap.size w w' := by
  have hba := alloc_in w (.cells #[.int .i64 k, .int .i64 n, .string (bs s)] 24)
  have hvn := Vr.new w k n s
  have hM := mayBe_walk k n s hs _ (T.below hba)
  cases h : V7.ckV k n s
  · have e1 : V7.enT k n s = [] ∧ V7.ckE k n s = 70 := by unfold V7.enT V7.ckE; rw [h]; exact ⟨rfl, rfl⟩
    rw [e1.1, e1.2]
    rw [h] at hM
    have HM := Lib.hid hM
    clear hM h e1 hvn
    go_enter Tryz.func10, Tryz.ntmps10
    go_wp2_with fail
    refine HM.out.mono ?_
    rintro e w1 ⟨rfl, b1⟩
    go_wp2
    go_ret2
    exact ⟨rfl, Below_in b1⟩
  · have e2 : V7.ckE k n s = 0 := by unfold V7.ckE; rw [h]; rfl
    obtain ⟨r1, r2⟩ := wr_of h
    have hbl := (V7.bd_len h).1
    have HB := Lib.hid (fun w1 (T1 : Tabs w1) => body_walk k n s n0 n1 h w1 T1)
    have hW := fun w1 => wrap_walk k (V7.bdV k n s) (by omega) w1
    rw [r1, r2] at hW
    rw [e2]
    rw [h] at hM
    have HM := Lib.hid hM
    have HW := Lib.hid hW
    have HT := Lib.hid (T.below hba)
    clear hM hW h e2 r1 r2 T
    generalize V7.enT k n s = E at *
    generalize V7.bdV k n s = B at *
    go_enter Tryz.func10, Tryz.ntmps10
    go_wp2_with fail
    generalize w.alloc (.cells #[.int .i64 k, .int .i64 n, .string (bs s)] 24) = w0 at *
    refine HM.out.mono ?_
    rintro e w1 ⟨rfl, b1⟩
    have T1 := Lib.hid (HT.out.below b1)
    have hv1 := hvn.below b1
    have bw := hba.trans (b1.mono hba.size)
    obtain ⟨z0, z1, z2⟩ := hv1
    clear b1 hba hvn HM HT
    go_wp2_with fail
    go_region_held3 (fun x => x.cell? ⟨w.heap.size, 0, none⟩ = some (.int .i64 k) ∧ x.cell? ⟨w.heap.size, 1, none⟩ = some (.int .i64 n) ∧ x.cell? ⟨w.heap.size, 2, none⟩ = some (.string (bs s))) (first | exact ⟨z0, z1, z2⟩ | exact y1 | exact y2)
      (first
        | (go_at_call 26; refine (HB.out _ (by exact T1.out)).mono ?_; rintro e x1 ⟨rfl, k1⟩; have k1' : Below w1.heap.size w1 x1 := ⟨k1.os, k1.tape, k1.output, k1.size, k1.block⟩; have b1 := bw.trans (k1'.mono bw.size); have hv1 := Vr.below ⟨z0, z1, z2⟩ k1'; have y1 := And.intro hv1.1 hv1.2)
        | (go_at_call 25; refine (HW.out _).mono ?_; rintro e x2 ⟨rfl, k2⟩; have k2' : Below x1.heap.size x1 x2 := ⟨k2.os, k2.tape, k2.output, k2.size, k2.block⟩; have b2 := b1.trans (k2'.mono b1.size); have hv2 := hv1.below k2'; have y2 := And.intro hv2.1 hv2.2))
    go_wp2
    go_ret2
    exact ⟨rfl, b2⟩
end Go.Proofs.YtkmfcnilbmckmaaGreatDoor
