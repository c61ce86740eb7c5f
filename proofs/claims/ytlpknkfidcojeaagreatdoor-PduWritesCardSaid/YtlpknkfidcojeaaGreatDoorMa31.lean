/- Texts on the program and on the document, joined: BerJ, PduJ. -/
import Derived.Test.YtlpknkfidcojeaaGreatDoorMa30
import Derived.Test.YtlpknkfidcojeaaGreatDoorMa24
import Derived.Test.YtlpknkfidcojeaaGreatDoorMa20
import Derived.Test.YtlpknkfidcojeaaGreatDoorMa28
import Derived.Test.YtlpknkfidcojeaaGreatDoorMa29
/- ber's short, Canon, walked. -/
namespace Go.Proofs.YtlpknkfidcojeaaGreatDoor
open Go.ChangeShapes Go.WideShapes Go.ChangeAt Go.RowKit K P1 B5
set_option linter.unusedVariables false

theorem bld_fresh (w : World) : Bld w.heap.size w.heap.size [] (w.alloc (.cells #[.pointer none, .slice none 0 0] 79)) :=
  .inl ⟨Nat.le_refl _, _, rowNew w _, World.ownsRow_nil _ _ _ _, by simp [Value.ownBlock]⟩
theorem prs_inv {a : Nat} {s : List UInt8} {g : Fo} (h : prs a s = .ok g) (hs : s ≠ []) :
    nxOk s = true ∧ ((isMade (nxT s) = true ∧ ∃ cs r, prs (a + 1) (nxB s) = .ok cs ∧ prs a (nxR s) = .ok r ∧ g = .node (nxT s) cs r) ∨ (isMade (nxT s) = false ∧ ∃ r, prs a (nxR s) = .ok r ∧ g = .leaf (nxT s) (nxB s) r)) := by
  rw [prs_step hs] at h
  by_cases hx : nxOk s = true
  · rw [if_neg (by rw [hx]; simp)] at h
    refine ⟨hx, ?_⟩
    by_cases ha : 32 < a
    · rw [if_pos ha] at h; cases h
    · rw [if_neg ha] at h
      by_cases hm : isMade (nxT s) = true
      · rw [if_pos hm] at h
        cases h1 : prs (a + 1) (nxB s) with
        | error e => rw [h1] at h; cases h
        | ok cs =>
          rw [h1] at h
          cases h2 : prs a (nxR s) with
          | error e => rw [h2] at h; cases h
          | ok r => rw [h2] at h; cases h; exact .inl ⟨hm, cs, r, rfl, rfl, rfl⟩
      · rw [if_neg hm] at h
        cases h2 : prs a (nxR s) with
        | error e => rw [h2] at h; cases h
        | ok r => rw [h2] at h; cases h; exact .inr ⟨by simpa using hm, r, rfl, rfl⟩
  · rw [Bool.not_eq_true] at hx
    rw [if_pos hx] at h; cases h
theorem bld_lt {w : World} {B b : Nat} {l : List UInt8} (h : Bld B b l w) : b < w.heap.size := by
  unfold Bld at h
  rcases h with h | h
  · exact h.lt
  · exact h.lt
def ShortOk (l : List UInt8) (f : Fo) : Prop := ∀ w : World, Calls Tryz.prog 51 #[.string (bs l)] w fun e w' => e = .returned (.string (bs f.enc)) ∧ Below w.heap.size w w'
def SoRel (l : List UInt8) (a : Nat) (f : Fo) (w : World) (b g : Nat) (v0 : Value) (wr : World) : Prop :=
  ∃ out s k, v0 = .string (bs s) ∧ s.length ≤ g ∧ s.length ≤ l.length ∧ prs a s = .ok k ∧ out ++ k.enc = f.enc ∧ Bld b b out wr ∧ Below b w wr
set_option maxRecDepth 100000 in
set_option maxHeartbeats 4000000 in
theorem short_core (a : Nat) (l : List UInt8) (f : Fo) (hl : l.length ≤ 100000000) (hf : prs a l = .ok f) (IH : ∀ l' f', l'.length < l.length → prs (a + 1) l' = .ok f' → ShortOk l' f') : ShortOk l f := by
  intro w
  have HIH := Lib.hid IH
  have hfl := (prs_of l.length a l f (Nat.le_refl _) hf).2.1
  have hbf := bld_fresh w
  have hba : Below w.heap.size w (w.alloc (.cells #[.pointer none, .slice none 0 0] 79)) := (Below.refl _ _).alloc (Nat.le_refl _) _
  have hr0 : SoRel l a f w w.heap.size l.length (.string (bs l)) (w.alloc (.cells #[.pointer none, .slice none 0 0] 79)) := ⟨[], l, f, rfl, Nat.le_refl _, Nat.le_refl _, hf, rfl, hbf, hba⟩
  have HR0 := Lib.hid hr0
  clear IH hbf hba hr0 hf
  go_enter Tryz.func51, Tryz.ntmps51
  go_wp2
  go_loopg [0] l.length (fun g v0 wr => SoRel l a f w w.heap.size g v0 wr)
  case atStart => exact HR0.out
  case round =>
    clear HR0
    obtain ⟨out, s, k, rfl, hg, hsl, hk, hout, hB, hb⟩ := hrel
    have hol : out.length ≤ l.length := by
      have := congrArg List.length hout
      rw [List.length_append] at this; omega
    by_cases hs : s = []
    · subst hs
      rw [prs_nil] at hk
      cases hk
      have HP := Lib.hid (show out = f.enc by rw [← hout]; exact (List.append_nil out).symm)
      clear hout hg hsl HIH hfl
      go_wp2_with fail
      refine (bstr _ _ _ _ hB hb.size).mono ?_
      rintro e w1 ⟨rfl, b1⟩
      have hb2 := hb.trans b1
      clear b1
      go_wp2
      go_ret
      rw [HP.out]
      exact ⟨rfl, hb2⟩
    · have hne : s.isEmpty = false := List.isEmpty_eq_false_iff.2 hs
      obtain ⟨hx, hway⟩ := prs_inv hk hs
      obtain ⟨n1, n2, n3, n4, n5⟩ := nx_of hx
      have hN := Lib.hid (next_ok s (by omega) hx wr)
      have h32 := and32 (nxT s) n2
      have hbz := hb.size
      rcases hway with ⟨hm, cs, r, hcs, hr, hkk⟩ | ⟨hm, r, hr, hkk⟩
      · have hcl := (prs_of (nxB s).length (a + 1) (nxB s) cs (Nat.le_refl _) hcs).2.1
        have hS : ∀ w1 : World, Calls Tryz.prog 51 #[.string (bs (nxB s))] w1 fun e w' => e = .returned (.string (bs cs.enc)) ∧ Below w1.heap.size w1 w' := HIH.out (nxB s) cs (by omega) hcs
        have HS := Lib.hid hS
        clear hS
        have HHd := Lib.hid (fun w1 => head_walk (nxT s) cs.enc.length n2 (by omega) w1)
        have hnew : (out ++ (b8 (nxT s) :: short cs.enc.length)) ++ cs.enc ++ r.enc = f.enc := by
          rw [← hout, hkk]
          show _ = out ++ (put (nxT s) cs.enc ++ r.enc)
          unfold put; simp
        have hhl : (b8 (nxT s) :: short cs.enc.length).length ≤ 6 := by
          rw [List.length_cons, short_len]; have := kb_pos cs.enc.length
          by_cases h : cs.enc.length < 128
          · rw [if_pos h]; omega
          · rw [if_neg h]; omega
        rw [hm] at h32
        have hm32 : (bits .and .i64 ((nxT s : Nat) : Int) 32 != 0) = true := by
          rw [bne, h32]; rfl
        have HNEW := Lib.hid hnew
        have HR := Lib.hid hr
        have HG := Lib.hid hg
        have HSL := Lib.hid hsl
        generalize b8 (nxT s) :: short cs.enc.length = HD at *
        generalize cs.enc = CE at *
        generalize nxT s = T at *
        generalize nxB s = BD at *
        generalize nxR s = RS at *
        clear hnew hkk h32 hm hcs hr hk hout hg hsl hs hx HIH
        go_wp2_with fail
        refine hN.out.mono ?_
        rintro e w1 ⟨rfl, d1⟩
        have B1 := bld_below hB d1
        have b1 := hb.trans (d1.mono hb.size)
        have B2 := bld_below B1 ((Below.refl w1.heap.size w1).alloc (Nat.le_refl _) (.cells #[.int .i64 (T : Nat), .string (bs BD)] 30))
        have b2 := b1.alloc b1.size (.cells #[.int .i64 (T : Nat), .string (bs BD)] 30)
        have P2 := Prt.new w1 30 (T : Nat) BD
        have hpb : w.heap.size < w1.heap.size := bld_lt B1
        go_wp2_with fail
        generalize w1.alloc (.cells #[.int .i64 (T : Nat), .string (bs BD)] 30) = w2 at *
        generalize w1.heap.size = pb at *
        clear B1 b1 d1 hB hb
        refine (HS.out _).mono ?_
        rintro e w3 ⟨rfl, d3⟩
        have P3 := P2.below d3
        have B3 := bld_below B2 d3
        have b3 := b2.trans (d3.mono b2.size)
        have P4 := P3.setB CE
        have B4 := bld_set B3 P3 (by decide) (show w.heap.size ≠ pb by omega) 1 (.string (bs CE))
        have b4 := b3.setCell (p := ⟨pb, 1, none⟩) (show w.heap.size ≤ pb by omega) (.string (bs CE))
        obtain ⟨q0, q1, f0, f1⟩ := P3.cells
        clear P3 B3 b3 d3 P2 B2 b2
        go_wp2_with fail
        generalize w3.setCell ⟨pb, 1, none⟩ (.string (bs CE)) = w4 at *
        clear q0 q1 f0 f1
        refine (HHd.out w4).mono ?_
        rintro e w5 ⟨rfl, d5⟩
        have P5 := P4.below d5
        have B5 := bld_below B4 d5
        have b5 := b4.trans (d5.mono b4.size)
        obtain ⟨q0, q1, f0, f1⟩ := P5.cells
        have HP5 := Lib.hid P5
        clear P4 B4 b4 d5 P5
        go_wp2_with fail
        refine (wstr _ _ out HD w5 B5 (by omega) b5.size).mono ?_
        rintro e w6 ⟨rfl, B6, k6, o6⟩
        have P6 : Prt w6 pb 30 (T : Nat) CE := (o6 pb _ _ _ HP5.out (by decide) (by omega)).trans HP5.out
        have b6 := b5.trans k6
        clear q0 q1 f0 f1 HP5 B5 k6 o6 b5
        obtain ⟨q0, q1, f0, f1⟩ := P6.cells
        clear P6
        go_wp2_with fail
        refine (wstr _ _ (out ++ HD) CE w6 B6 (by rw [List.length_append]; omega) b6.size).mono ?_
        rintro e w7 ⟨rfl, B7, k7, o7⟩
        have b7 := b6.trans k7
        clear q0 q1 f0 f1 k7 o7 b6 B6
        go_wp2
        go_roundg RS.length
        case measure => have := HG.out; omega
        case rel => exact ⟨out ++ HD ++ CE, RS, r, rfl, Nat.le_refl _, by have := HSL.out; omega, HR.out, HNEW.out, B7, b7⟩
      · have HHd := Lib.hid (fun w1 => head_walk (nxT s) (nxB s).length n2 (by omega) w1)
        have hnew : (out ++ (b8 (nxT s) :: short (nxB s).length)) ++ nxB s ++ r.enc = f.enc := by
          rw [← hout, hkk]
          show _ = out ++ (put (nxT s) (nxB s) ++ r.enc)
          unfold put; simp
        have hhl : (b8 (nxT s) :: short (nxB s).length).length ≤ 6 := by
          rw [List.length_cons, short_len]; have := kb_pos (nxB s).length
          by_cases h : (nxB s).length < 128
          · rw [if_pos h]; omega
          · rw [if_neg h]; omega
        rw [hm] at h32
        have hm32 : (bits .and .i64 ((nxT s : Nat) : Int) 32 != 0) = false := by
          rw [bne, h32]; rfl
        have HNEW := Lib.hid hnew
        have HR := Lib.hid hr
        have HG := Lib.hid hg
        have HSL := Lib.hid hsl
        generalize b8 (nxT s) :: short (nxB s).length = HD at *
        generalize nxT s = T at *
        generalize nxB s = CE at *
        generalize nxR s = RS at *
        clear hnew hkk h32 hm hr hk hout hg hsl hs hx HIH
        go_wp2_with fail
        refine hN.out.mono ?_
        rintro e w1 ⟨rfl, d1⟩
        have B1 := bld_below hB d1
        have b1 := hb.trans (d1.mono hb.size)
        have B4 := bld_below B1 ((Below.refl w1.heap.size w1).alloc (Nat.le_refl _) (.cells #[.int .i64 (T : Nat), .string (bs CE)] 30))
        have b4 := b1.alloc b1.size (.cells #[.int .i64 (T : Nat), .string (bs CE)] 30)
        have P4 := Prt.new w1 30 (T : Nat) CE
        have hpb : w.heap.size < w1.heap.size := bld_lt B1
        go_wp2_with fail
        generalize w1.alloc (.cells #[.int .i64 (T : Nat), .string (bs CE)] 30) = w4 at *
        generalize w1.heap.size = pb at *
        clear B1 b1 d1 hB hb
        refine (HHd.out w4).mono ?_
        rintro e w5 ⟨rfl, d5⟩
        have P5 := P4.below d5
        have B5 := bld_below B4 d5
        have b5 := b4.trans (d5.mono b4.size)
        obtain ⟨q0, q1, f0, f1⟩ := P5.cells
        have HP5 := Lib.hid P5
        clear P4 B4 b4 d5 P5
        go_wp2_with fail
        refine (wstr _ _ out HD w5 B5 (by omega) b5.size).mono ?_
        rintro e w6 ⟨rfl, B6, k6, o6⟩
        have P6 : Prt w6 pb 30 (T : Nat) CE := (o6 pb _ _ _ HP5.out (by decide) (by omega)).trans HP5.out
        have b6 := b5.trans k6
        clear q0 q1 f0 f1 HP5 B5 k6 o6 b5
        obtain ⟨q0, q1, f0, f1⟩ := P6.cells
        clear P6
        go_wp2_with fail
        refine (wstr _ _ (out ++ HD) CE w6 B6 (by rw [List.length_append]; omega) b6.size).mono ?_
        rintro e w7 ⟨rfl, B7, k7, o7⟩
        have b7 := b6.trans k7
        clear q0 q1 f0 f1 k7 o7 b6 B6
        go_wp2
        go_roundg RS.length
        case measure => have := HG.out; omega
        case rel => exact ⟨out ++ HD ++ CE, RS, r, rfl, Nat.le_refl _, by have := HSL.out; omega, HR.out, HNEW.out, B7, b7⟩
theorem short_walk : ∀ (n a : Nat) (l : List UInt8) (f : Fo), l.length ≤ n → l.length ≤ 100000000 → prs a l = .ok f → ShortOk l f
  | 0, a, l, f, hn, hl, hf => short_core a l f hl hf fun l' f' h _ => absurd h (by omega)
  | n + 1, a, l, f, hn, hl, hf => short_core a l f hl hf fun l' f' h h2 => short_walk n (a + 1) l' f' (by omega) (by omega) h2
end Go.Proofs.YtlpknkfidcojeaaGreatDoor
/- pdu's wrap, element, list, walked. -/
namespace Go.Proofs.YtlpknkfidcojeaaGreatDoor
open Go.ChangeShapes Go.WideShapes Go.ChangeAt Go.RowKit K P1 B5
open D8 (Bd Un lst)
set_option linter.unusedVariables false

theorem wrap8_walk (t : Nat) (h2 : isTag t = true) (ht : t < 256) (b : List UInt8) (hb : b.length ≤ 16777216) (w : World) :
    Calls Tryz.prog 34 #[.int .i64 (t : Nat), .string (bs b)] w fun e w' => e = .returned (.string (bs (put t b))) ∧ Below w.heap.size w w' := by
  have hW := fun w1 => wrap_walk (t : Nat) b (by omega) w1
  rw [(wr_yes t b ht h2 hb).1, (wr_yes t b ht h2 hb).2] at hW
  have HW := Lib.hid hW
  clear hW h2 ht
  generalize put t b = R at *
  generalize ((t : Nat) : Int) = t' at *
  go_enter Tryz.func34, Tryz.ntmps34
  go_wp2_with fail
  refine (HW.out _).mono ?_
  rintro e w1 ⟨rfl, b1⟩
  go_wp2
  go_ret
  exact ⟨rfl, b1⟩
theorem ck_len8 {k n : Int} {s : List UInt8} (h : V7.ckV k n s = true) : s.length ≤ 65535 := by
  cases V7.ways h with
  | int hk hs => rw [hs]; simp
  | text hk hn hs => exact hs
  | null hk hn hs => rw [hs]; simp
  | oid hk hn l hl hs =>
    have q1 := O6.put_len l (O6.isArcs_le hl)
    have q2 := (O6.isArcs_len hl).2
    rw [← hs]; omega
  | addr hk hn hs => omega
  | count hk hs => rw [hs]; simp
  | big hk hs => rw [hs]; simp
set_option maxRecDepth 100000 in
set_option maxHeartbeats 1000000 in
theorem element_walk (x : Bd) (h : x.ok = true) (hf : x.fits) (w : World) (T : Tabs w) :
    Calls Tryz.prog 59 #[.agg #[.string (bs x.o), .int .i64 x.k, .int .i64 x.n, .string (bs x.s)]] w fun e w' => e = .returned (.string (bs (put 48 x.body))) ∧ Below w.heap.size w w' := by
  obtain ⟨p1, p2, p3, p4, p5, p6, p7⟩ := bd_puts h
  have hol : x.o.length ≤ 1000000 := by
    have h' := h
    unfold Bd.ok at h'
    rw [Bool.and_eq_true] at h'
    obtain ⟨l, hl⟩ := Option.isSome_iff_exists.1 h'.1
    obtain ⟨a1, a2⟩ := (O6.arcs_iff _ _).1 hl
    have q1 := O6.put_len l (O6.isArcs_le a1)
    have q2 := (O6.isArcs_len a1).2
    rw [← a2]; omega
  have hsl : x.s.length ≤ 1000000 := by have := ck_len8 p3; omega
  have hE := fun w1 (T1 : Tabs w1) => encode_walk x.o hol w1 T1
  rw [p1, p2] at hE
  have hV := fun w1 (T1 : Tabs w1) => encode_walk7 x.k x.n x.s hsl hf.1 hf.2 w1 T1
  have hW6 : ∀ w1, Calls Tryz.prog 34 #[.int .i64 6, .string (bs (V7.ob x.o))] w1 fun e w' => e = .returned (.string (bs (put 6 (V7.ob x.o)))) ∧ Below w1.heap.size w1 w' := fun w1 => wrap8_walk 6 (by decide) (by omega) (V7.ob x.o) (by omega) w1
  have hW48 : ∀ w1, Calls Tryz.prog 34 #[.int .i64 48, .string (bs x.body)] w1 fun e w' => e = .returned (.string (bs (put 48 x.body))) ∧ Below w1.heap.size w1 w' := fun w1 => wrap8_walk 48 (by decide) (by omega) x.body (by omega) w1
  have hln : (put 6 (V7.ob x.o) ++ V7.enT x.k x.n x.s).length ≤ 66300 := by rw [← p4]; exact p6
  rw [p4] at hW48 ⊢
  rw [List.length_append] at hln
  have hq := Bq.new w x
  have hba := alloc_in w (.cells #[.string (bs x.o), .int .i64 x.k, .int .i64 x.n, .string (bs x.s)] 42)
  have HT := Lib.hid (T.below hba)
  have HE := Lib.hid hE
  have HV := Lib.hid hV
  have HW6 := Lib.hid hW6
  have HW48 := Lib.hid hW48
  clear hE hV hW6 hW48 p1 p2 p3 p4 p5 p6 p7 hol hsl T h hf
  generalize put 6 (V7.ob x.o) = B6 at *
  generalize V7.enT x.k x.n x.s = BV at *
  generalize V7.ob x.o = OB at *
  generalize V7.ckE x.k x.n x.s = CE at *
  generalize put 48 (B6 ++ BV) = B48 at *
  have hcat : (9223372036854775807 < B6.length + BV.length) = False := eq_false (by omega)
  go_enter Tryz.func59, Tryz.ntmps59
  go_wp2_with fail
  refine (HE.out _ HT.out).mono ?_
  rintro e w1 ⟨rfl, b1⟩
  obtain ⟨z0, z1, z2, z3⟩ := (hq.below b1).cells
  have HT1 := Lib.hid (HT.out.below b1)
  go_wp2_with fail
  refine (HV.out _ HT1.out).mono ?_
  rintro e w2 ⟨rfl, d2⟩
  have b2 := b1.trans (d2.mono b1.size)
  go_wp2_with fail
  refine (HW6.out _).mono ?_
  rintro e w3 ⟨rfl, d3⟩
  have b3 := b2.trans (d3.mono b2.size)
  go_wp2_with fail
  refine (HW48.out _).mono ?_
  rintro e w4 ⟨rfl, d4⟩
  go_wp2
  go_ret
  exact ⟨rfl, Below_in (b3.trans (d4.mono b3.size))⟩
/-- A builder's length. -/
theorem blen (B b : Nat) (l : List UInt8) (w : World) (h : Bld B b l w) :
    Calls Tryz.prog 60 #[.pointer (some ⟨b, 0, none⟩)] w fun e w' => e = .returned (.int .i64 (l.length : Nat)) ∧ w = w' := by
  obtain ⟨v, p, hc, hn⟩ : ∃ v p, w.heap[b]? = some (.cells #[p, v] 79 (0, 0)) ∧ ∃ ao cap, v = .slice ao l.length cap := by
    have hl := cells_len l
    unfold Bld at h
    rcases h with ⟨hB, v, hbk, hown, hne⟩ | ⟨hB, v, hbk, hown, hne⟩
    · refine ⟨v, _, hbk, ?_⟩
      rcases hown.2 with ⟨hv, h0⟩ | ⟨g, cap, cur, hv, _⟩
      · exact ⟨none, 0, by rw [hv]; congr 1; omega⟩
      · exact ⟨_, cap, by rw [hv, hl]⟩
    · refine ⟨v, _, hbk, ?_⟩
      rcases hown.2 with ⟨hv, h0⟩ | ⟨g, cap, cur, hv, _⟩
      · exact ⟨none, 0, by rw [hv]; congr 1; omega⟩
      · exact ⟨_, cap, by rw [hv, hl]⟩
  obtain ⟨ao, cap, rfl⟩ := hn
  have c1 : w.cell? ⟨b, 1, none⟩ = some (.slice ao l.length cap) := cellRow hc 1
  clear h hc
  go_enter Tryz.func60, Tryz.ntmps60
  go_wp2
  go_ret
  exact ⟨rfl, rfl⟩
theorem lst_mono (xs : List Bd) (i : Nat) : (lst (xs.take i)).length ≤ (lst xs).length := by
  conv => rhs; rw [← List.take_append_drop i xs, lst_app, List.length_append]
  omega
def lsS (xs : List Bd) : List UInt8 := if (lst xs).length ≤ 65536 then lst xs else []
def lsB (xs : List Bd) : Bool := decide ((lst xs).length ≤ 65536)
theorem ls_yes {xs : List Bd} (h : (lst xs).length ≤ 65536) : lsS xs = lst xs ∧ lsB xs = true := ⟨if_pos h, decide_eq_true h⟩
theorem ls_no {xs : List Bd} (h : ¬ (lst xs).length ≤ 65536) : lsS xs = [] ∧ lsB xs = false := ⟨if_neg h, decide_eq_false h⟩
def Ls8Rel (xs : List Bd) (w : World) (g : Nat) (v : Value) (wr : World) : Prop :=
  ∃ i : Nat, i + g = xs.length ∧ v = .int .i64 (i : Nat) ∧ Bld w.heap.size w.heap.size (lst (xs.take i)) wr ∧ (lst (xs.take i)).length ≤ 65536 ∧ Below w.heap.size w wr
set_option maxRecDepth 100000 in
set_option maxHeartbeats 2000000 in
theorem list_walk8 (xs : List Bd) (ao : Option Addr) (cap : Nat) (hk : ∀ x ∈ xs, x.ok = true) (hf : Lim xs) (hl : xs.length ≤ 4096) (w : World) (T : Tabs w) (hr : RdB w ao xs) :
    Calls Tryz.prog 31 #[.slice ao xs.length cap] w fun e w' => e = .returned (.tuple #[.string (bs (lsS xs)), .bool (lsB xs)]) ∧ Below w.heap.size w w' := by
  have HT := Lib.hid T
  have HK := Lib.hid hk
  have hbf := bld_fresh w
  have hba : Below w.heap.size w (w.alloc (.cells #[.pointer none, .slice none 0 0] 79)) := (Below.refl _ _).alloc (Nat.le_refl _) _
  have HR0 := Lib.hid (show Ls8Rel xs w xs.length (.int .i64 (0 : Nat)) (w.alloc (.cells #[.pointer none, .slice none 0 0] 79)) from ⟨0, by omega, rfl, hbf, by simp [lst], hba⟩)
  clear T hk hbf hba
  go_enter Tryz.func31, Tryz.ntmps31
  go_wp2_with fail
  go_loopg [9] xs.length (fun g v wr => Ls8Rel xs w g v wr)
  case atStart => exact HR0.out
  case round =>
    clear HR0
    obtain ⟨i, hi, rfl, hB, hlen, hb⟩ := hrel
    cases gk with
    | zero =>
      obtain rfl : i = xs.length := by omega
      rw [List.take_length] at hB hlen
      have HL := Lib.hid hlen
      clear hlen
      go_wp2_with fail
      refine (bstr _ _ _ _ hB hb.size).mono ?_
      rintro e w1 ⟨rfl, b1⟩
      go_wp2
      go_ret2
      exact ⟨by rw [(ls_yes HL.out).1, (ls_yes HL.out).2]; rfl, hb.trans b1⟩
    | succ g =>
      have hlt : i < xs.length := by omega
      have HLT := Lib.hid (lst_take hlt)
      have hof := ok_at HK.out hlt
      have hxf := (hf.at hlt).2.2
      have HMO := Lib.hid (lst_mono xs (i + 1))
      obtain ⟨x, hxe⟩ : ∃ x, xs.getD i nob = x := ⟨_, rfl⟩
      obtain ⟨b, off, rfl, hbl, c0, c1, c2, c3⟩ := (hr.below (hb.mono (Nat.le_refl _))).at hlt hxe
      rw [hxe] at HLT hof hxf
      have hbz := (bd_puts hof).2.2.2.2.2.1
      have hpl : (put 48 x.body).length ≤ 66310 := by have := D8.short_le8 x.body.length; rw [put_len]; omega
      have HE := Lib.hid (fun w1 (T1 : Tabs w1) => element_walk x hof hxf w1 T1)
      have ba := alloc_in wr (.cells #[.string (bs x.o), .int .i64 x.k, .int .i64 x.n, .string (bs x.s)] 42)
      have hbz2 := hb.size
      have hB0 := bld_below hB ba
      have hb0 := hb.trans (ba.mono hb.size)
      have HT0 := Lib.hid (HT.out.below hb0)
      clear hof hxf hxe hbz ba hB
      generalize lst (xs.take i) = L0 at *
      generalize put 48 x.body = BX at *
      go_wp2_with fail
      generalize wr.alloc (.cells #[.string (bs x.o), .int .i64 x.k, .int .i64 x.n, .string (bs x.s)] 42) = w0 at *
      refine (HE.out _ HT0.out).mono ?_
      rintro e w1 ⟨rfl, d1⟩
      have hB1 := bld_below hB0 d1
      have hb1 := hb0.trans (d1.mono hb0.size)
      clear d1 hB0 hb0 HE HT0
      go_wp2_with fail
      refine (wstr _ _ _ BX _ hB1 (by omega) hb1.size).mono ?_
      rintro e w2 ⟨rfl, hB2, d2, _⟩
      have hb2 := hb1.trans d2
      clear d2 hB1 hb1
      go_wp2_with fail
      refine (blen _ _ _ _ hB2).mono ?_
      rintro e w3 ⟨rfl, rfl⟩
      by_cases hgt : (L0 ++ BX).length ≤ 65536
      · have hgt' : ((L0.length : Nat) : Int) + ((BX.length : Nat) : Int) ≤ 65536 := by rw [List.length_append] at hgt; omega
        go_wp2
        go_roundg g
        case measure => omega
        case rel => exact ⟨i + 1, by omega, by simp, by rw [HLT.out]; exact hB2, by rw [HLT.out]; exact hgt, hb2⟩
      · have hgt' : (65536 : Int) < ((L0.length : Nat) : Int) + ((BX.length : Nat) : Int) := by rw [List.length_append] at hgt; omega
        have HNO := Lib.hid (show ¬ (lst xs).length ≤ 65536 by have h1 := HMO.out; rw [HLT.out] at h1; omega)
        clear hgt
        go_wp2
        go_ret2
        exact ⟨by rw [(ls_no HNO.out).1, (ls_no HNO.out).2]; rfl, hb2⟩
end Go.Proofs.YtlpknkfidcojeaaGreatDoor
