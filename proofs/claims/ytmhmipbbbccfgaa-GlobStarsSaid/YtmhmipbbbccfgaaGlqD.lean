/- The program's ranges, walked. -/
import Derived.Test.YtmhmipbbbccfgaaGlqC
import Derived.Test.YtmhmipbbbccfgaaGlbD
namespace Go.Proofs.Ytmhmipbbbccfgaa
open Go.ChangeShapes Go.WideShapes Go.ChangeAt Go.RowKit K G13
set_option linter.unusedVariables false

theorem wArr_one (f : Nat → Bool) : (wArr f).all (·.oneCell') = true := by simp [wArr, wV, Value.oneCell']
theorem sz4 : (Try.prog.info? 50).map (·.size) = some 4 := by kernel_rfl
theorem rng_le {s : List UInt8} {a b : UInt8} {r : List UInt8} (h : rng s = some ((a, b), r)) : a ≤ b := by
  unfold rng at h
  split at h
  · cases h
  · split at h
    · injection h with h; injection h with h1 h2; injection h1 with h3 h4; subst h3 h4; exact UInt8.le_refl _
    · split at h
      · split at h
        · cases h
        · split at h
          · next hab => injection h with h; injection h with h1 h2; injection h1 with h3 h4; subst h3 h4; exact hab
          · cases h
      · injection h with h; injection h with h1 h2; injection h1 with h3 h4; subst h3 h4; exact UInt8.le_refl _
theorem qin_nil : qin [] = fun _ => false := rfl
theorem SetB.next {w : World} {b : Nat} {T : TypeId} {xs : List (UInt8 × UInt8)} {x y : UInt8} {tl : Array Value} (h : SetB w b T (orR (qin xs) x.toNat (y.toNat + 1)) tl) : SetB w b T (qin (xs ++ [(x, y)])) tl := by
  unfold SetB at *
  rw [h, wArr_congr (f := qin (xs ++ [(x, y)])) (g := orR (qin xs) x.toNat (y.toNat + 1)) fun i hi => qin_snoc xs x y i hi]
theorem Below_drewN2 {B : Nat} {a b : World} (h : Below B a b) (n : Nat) : Below B a (b.drewN n) := ⟨h.os, h.tape, h.output, h.size, h.block⟩
attribute [local irreducible] wArr wd
/-- What ranges answers of what stands behind the [. -/
def RsPost (o : Option ((UInt8 → Bool) × List UInt8)) (w : World) (e : Ending) (w' : World) : Prop :=
  Below w.heap.size w w' ∧ match o with
  | none => e = .returned (.tuple #[.agg (wArr fun _ => false), .string (bs []), .bool false])
  | some (f, r) => e = .returned (.tuple #[.agg (wArr fun i => f (UInt8.ofNat i)), .string (bs r), .bool true])
/-- The rounds. -/
def RsRel (u : List UInt8) (w : World) (g : Nat) (v3 v6 : Value) (wr : World) : Prop :=
  ∃ xs b e, v3 = .string (bs b) ∧ v6 = .bool e ∧ SetB wr w.heap.size 50 (qin xs) #[] ∧ Below w.heap.size w wr ∧ b.length + (if e then 0 else 1) ≤ g ∧ b.length ≤ u.length ∧ (if e = true then rg13 u = some (xs, b) else rg13 u = (rg13 b).map fun y => (xs ++ y.1, y.2))
theorem rs_none {u b : List UInt8} {xs : List (UInt8 × UInt8)} (h : rg13 u = (rg13 b).map fun y => (xs ++ y.1, y.2)) (hr : rng b = none) : rg13 u = none := by
  rw [h, rg_step, hr]; rfl
theorem rs_end {u b t : List UInt8} {xs : List (UInt8 × UInt8)} {x : UInt8 × UInt8} (h : rg13 u = (rg13 b).map fun y => (xs ++ y.1, y.2)) (hr : rng b = some (x, 93 :: t)) : rg13 u = some (xs ++ [x], t) := by
  rw [h, rg_step, hr]; rfl
theorem rs_more {u b r : List UInt8} {xs : List (UInt8 × UInt8)} {x : UInt8 × UInt8} (h : rg13 u = (rg13 b).map fun y => (xs ++ y.1, y.2)) (hr : rng b = some (x, r)) (h93 : r.head? ≠ some 93) : rg13 u = (rg13 r).map fun y => ((xs ++ [x]) ++ y.1, y.2) := by
  rw [h, rg_step, hr]
  simp only [if_neg h93]
  cases rg13 r <;> simp
set_option maxRecDepth 100000 in
set_option maxHeartbeats 2000000 in
theorem ranges_walk (s : List UInt8) (hs : s.length ≤ 140737488355327) (w : World) :
    Calls Try.prog 37 #[.string (bs s)] w (RsPost (st13 s) w) := by
  obtain ⟨but, u, hcut, hul, hst⟩ : ∃ but u, (∀ wx, Calls Try.prog 46 #[.string (bs s), .string (bs [33])] wx fun e w' => e = .returned (.tuple #[.string (bs u), .bool but]) ∧ wx = w') ∧ u.length ≤ s.length ∧ st13 s = (rg13 u).map fun y => ((fun b => if but then !inR y.1 b else inR y.1 b), y.2) := by
    by_cases h : s.head? = some 33
    · cases s with
      | nil => cases h
      | cons c t =>
        injection h with h
        subst h
        refine ⟨true, t, fun wx => ?_, by simp, by rw [st_bang]; simp⟩
        have := gcutp_walk (33 :: t) [33] wx
        rw [(cut1_yes 33 t).1, (cut1_yes 33 t).2] at this
        exact this
    · refine ⟨false, s, fun wx => ?_, Nat.le_refl _, by rw [st_else s h]; simp⟩
      have := gcutp_walk s [33] wx
      rw [(cut1_no 33 s h).1, (cut1_no 33 s h).2] at this
      exact this
  have HCUT := Lib.hid hcut
  have HST := Lib.hid hst
  have hul2 : u.length ≤ 140737488355327 := by omega
  have HC := Lib.hid (fun t wx => gcutp_walk t [93] wx)
  have HADD := Lib.hid (fun f x y hy hxy wx h => add_walk f w.heap.size 50 #[] x y hy hxy wx h)
  have HOTH := Lib.hid (fun f wx => others_walk f wx)
  have HB0 := Lib.hid ((Below.refl w.heap.size w).alloc (Nat.le_refl _) (.cells #[.int .u64 0, .int .u64 0, .int .u64 0, .int .u64 0] 50))
  have HS0 := Lib.hid (show SetB (w.alloc (.cells #[.int .u64 0, .int .u64 0, .int .u64 0, .int .u64 0] 50)) w.heap.size 50 (qin []) #[] by
    unfold SetB; rw [qin_nil, wArr_none]; exact rowNew w _)
  clear hcut hst hul hs
  go_enter Try.func37, Try.ntmps37
  go_wp2_with fail
  refine (HCUT.out _).mono ?_
  rintro e w1 ⟨rfl, rfl⟩
  go_wp2_with fail
  go_loopg [3, 6] (u.length + 1) (fun g v3 v6 wr => RsRel u w g v3 v6 wr)
  case atStart => exact ⟨[], u, false, rfl, rfl, HS0.out, HB0.out, by simp, Nat.le_refl _, by simp⟩
  case round =>
    obtain ⟨xs, b, e, rfl, rfl, hS, hB, hg, hbl, hrel⟩ := hrel
    clear HS0 HB0
    cases e with
    | true =>
      simp only [if_true] at hrel hg
      have HR := Lib.hid (show st13 s = some ((fun b => if but then !inR xs b else inR xs b), b) by rw [HST.out, hrel]; rfl)
      have hS4 : wr.heap[w.heap.size]? = some (.cells (wArr (qin xs)) 50 (0, 0)) := by
        have := hS; unfold SetB at this; rw [this]; simp
      have hb0 := hB.size
      have HS4 := Lib.hid hS4
      have HB := Lib.hid hB
      clear hS hrel hg hS4 hB HST HC HADD HCUT
      cases but with
      | true =>
        go_wp2_with (first | (guard_target = wpList _ _ _ ({ dst := _, op := .load _ _, type := _, pos := _, after := _, guard := _ } :: _) _ _; refine wpList_load_row rfl 50 _ rfl w.heap.size rfl 50 (wArr (qin xs)) (0, 0) _ HS4.out Try.underlying50 rfl (by rw [sz4, wArr_size]) ?_))
        refine (HOTH.out _ _).mono ?_
        rintro e w2 ⟨rfl, b2⟩
        have h5 : w2.heap[w.heap.size]? = some (.cells (wArr (qin xs)) 50 (0, 0)) := (b2.block _ (lt_of_block HS4.out)).trans HS4.out
        have HB2 := Lib.hid (HB.out.trans (b2.mono hb0))
        have H5 := Lib.hid h5
        have H6 := Lib.hid (setRow_heap _ _ _ (wArr fun i => !qin xs i) _ _ h5)
        clear h5 b2
        obtain ⟨nf, hnf⟩ : ∃ nf : Nat → Bool, (fun i => !qin xs i) = nf := ⟨_, rfl⟩
        have HNF := Lib.hid hnf
        rw [hnf] at H6
        rw [hnf]
        clear hnf
        go_wp2_with (first | (guard_target = wpList _ _ _ ({ dst := _, op := .load _ _, type := _, pos := _, after := _, guard := _ } :: _) _ _; refine wpList_load_row rfl 50 _ rfl w.heap.size rfl 50 (wArr nf) (0, 0) _ H6.out Try.underlying50 rfl (by rw [sz4, wArr_size]) ?_) | (guard_target = wpList _ _ _ ({ dst := _, op := .store _ _ _, type := _, pos := _, after := _, guard := _ } :: _) _ _; refine wpList_store_row rfl 50 _ _ rfl w.heap.size (wArr nf) rfl rfl 50 (wArr (qin xs)) H5.out (by rw [sz4, wArr_size]) (by simp only [wArr_size]) (wArr_one _) ?_) | (guard_target = wpList _ _ _ ({ dst := _, op := .store _ _ _, type := _, pos := _, after := _, guard := _ } :: _) _ _; refine wpList_store_row rfl 50 _ _ rfl w.heap.size (wArr nf) rfl rfl 50 (wArr nf) H6.out (by rw [sz4, wArr_size]) (by simp only [wArr_size]) (wArr_one _) ?_))
        refine bodyPost_ret (gres_row3 rfl _ _ w.heap.size _ (wArr nf) _ _ rfl (setRow_heap _ _ _ (wArr nf) _ _ H6.out) Try.underlying50 rfl (by rw [sz4, wArr_size])) rfl ?_
        refine ⟨below_setRow (below_setRow HB2.out (Nat.le_refl _) _) (Nat.le_refl _) _, ?_⟩
        rw [HR.out]
        rw [← HNF.out]
        rfl
      | false =>
        go_wp2_with (first | (guard_target = wpList _ _ _ ({ dst := _, op := .load _ _, type := _, pos := _, after := _, guard := _ } :: _) _ _; refine wpList_load_row rfl 50 _ rfl w.heap.size rfl 50 (wArr (qin xs)) (0, 0) _ HS4.out Try.underlying50 rfl (by rw [sz4, wArr_size]) ?_) | (guard_target = wpList _ _ _ ({ dst := _, op := .store _ _ _, type := _, pos := _, after := _, guard := _ } :: _) _ _; refine wpList_store_row rfl 50 _ _ rfl w.heap.size (wArr (qin xs)) rfl rfl 50 (wArr (qin xs)) HS4.out (by rw [sz4, wArr_size]) (by simp only [wArr_size]) (wArr_one _) ?_))
        refine bodyPost_ret (gres_row3 rfl _ _ w.heap.size _ (wArr (qin xs)) _ _ rfl (setRow_heap _ _ _ (wArr (qin xs)) _ _ HS4.out) Try.underlying50 rfl (by rw [sz4, wArr_size])) rfl ?_
        refine ⟨below_setRow HB.out (Nat.le_refl _) _, ?_⟩
        rw [HR.out]
        rfl
    | false =>
      simp only [Bool.false_eq_true, if_false] at hrel hg
      have HB := Lib.hid hB
      have HS := Lib.hid hS
      have hb0 := hB.size
      have HNR := Lib.hid (fun wx => nextrange_walk b (by omega) wx)
      cases hr : rng b with
      | none =>
        have HR := Lib.hid (show st13 s = none by rw [HST.out, rs_none hrel hr]; rfl)
        rw [hr] at HNR
        have hS4 : wr.heap[w.heap.size]? = some (.cells (wArr (qin xs)) 50 (0, 0)) := by
          have := hS; unfold SetB at this; rw [this]; simp
        have HS4 := Lib.hid hS4
        clear hrel hr hS hB hS4 HADD HOTH HC HST HCUT
        go_wp2_with fail
        refine (HNR.out _).mono ?_
        rintro e w2 ⟨⟨n, rfl⟩, x, y, z, hx, hy, rfl⟩
        have HS5 := Lib.hid (show (wr.drewN n).heap[w.heap.size]? = some (.cells (wArr (qin xs)) 50 (0, 0)) from HS4.out)
        have HB5 := Lib.hid (Below_drewN2 HB.out n)
        generalize wr.drewN n = w5 at *
        go_wp2_with (first | (guard_target = wpList _ _ _ ({ dst := _, op := .store _ _ _, type := _, pos := _, after := _, guard := _ } :: _) _ _; refine wpList_store_row rfl 50 _ _ rfl w.heap.size (#[.int .u64 0, .int .u64 0, .int .u64 0, .int .u64 0]) rfl rfl 50 (wArr (qin xs)) HS5.out (by kernel_rfl) (by rw [wArr_size]; rfl) (by simp [Value.oneCell']) ?_))
        refine bodyPost_ret (gres_row3 rfl _ _ w.heap.size _ (#[.int .u64 0, .int .u64 0, .int .u64 0, .int .u64 0]) _ _ rfl (setRow_heap _ _ _ (#[.int .u64 0, .int .u64 0, .int .u64 0, .int .u64 0]) _ _ HS5.out) Try.underlying50 rfl (by kernel_rfl)) rfl ?_
        refine ⟨below_setRow HB5.out (Nat.le_refl _) _, ?_⟩
        rw [HR.out]
        show _ = Ending.returned (.tuple #[.agg (wArr fun _ => false), .string (bs []), .bool false])
        rw [wArr_none]
        rfl
      | some q =>
        obtain ⟨⟨x, y⟩, r⟩ := q
        have hrl := rng_len hr
        have hxy := UInt8.le_iff_toNat_le.1 (rng_le hr)
        have hy := y.toNat_lt
        rw [hr] at HNR
        obtain ⟨h93, b', hC', hrel', hbl'⟩ : ∃ (h93 : Bool) (b' : List UInt8), (∀ wx, Calls Try.prog 46 #[.string (bs r), .string (bs [93])] wx fun e w' => e = .returned (.tuple #[.string (bs b'), .bool h93]) ∧ wx = w') ∧ (if h93 = true then rg13 u = some (xs ++ [(x, y)], b') else rg13 u = (rg13 b').map fun z => ((xs ++ [(x, y)]) ++ z.1, z.2)) ∧ b'.length + (if h93 then 0 else 1) ≤ b.length := by
          by_cases h : r.head? = some 93
          · cases r with
            | nil => cases h
            | cons d t =>
              injection h with h
              subst h
              refine ⟨true, t, fun wx => ?_, by rw [if_pos rfl]; exact rs_end hrel hr, by simp at hrl ⊢; omega⟩
              have := HC.out (93 :: t) wx
              rw [(cut1_yes 93 t).1, (cut1_yes 93 t).2] at this
              exact this
          · refine ⟨false, r, fun wx => ?_, by rw [if_neg (by decide)]; exact rs_more hrel hr h, by simp; omega⟩
            have := HC.out r wx
            rw [(cut1_no 93 r h).1, (cut1_no 93 r h).2] at this
            exact this
        have HC2 := Lib.hid hC'
        have HRL := Lib.hid hrel'
        have HA := Lib.hid (fun wx h => HADD.out (qin xs) x.toNat y.toNat hy hxy wx h)
        clear hrel hr hS hB HADD HOTH HC HST HCUT hC' hrel'
        go_wp2_with fail
        refine (HNR.out _).mono ?_
        rintro e w2 ⟨⟨n, rfl⟩, rfl⟩
        have HS5 := Lib.hid (show SetB (wr.drewN n) w.heap.size 50 (qin xs) #[] from HS.out)
        have HB5 := Lib.hid (Below_drewN2 HB.out n)
        generalize wr.drewN n = w5 at *
        have HX := Lib.hid (fun w6 h => SetB.next (w := w6) (b := w.heap.size) (T := 50) (xs := xs) (x := x) (y := y) (tl := #[]) h)
        clear hxy hy
        generalize x.toNat = xn at *
        generalize y.toNat = yn at *
        go_wp2_with fail
        refine (HA.out _ HS5.out).mono ?_
        rintro e w6 ⟨rfl, k6, hS6⟩
        have HS7 := Lib.hid (HX.out _ hS6)
        clear hS6
        go_wp2_with fail
        refine (HC2.out _).mono ?_
        rintro e w7 ⟨rfl, rfl⟩
        have HB7 := Lib.hid (HB5.out.trans ((k6.below (B := w.heap.size) HB5.out.size (by simp)))) 
        clear k6
        go_wp2
        go_roundg (b'.length + (if h93 then 0 else 1))
        case measure => omega
        case rel => exact ⟨xs ++ [(x, y)], b', h93, rfl, rfl, HS7.out, HB7.out, Nat.le_refl _, by omega, HRL.out⟩
end Go.Proofs.Ytmhmipbbbccfgaa
