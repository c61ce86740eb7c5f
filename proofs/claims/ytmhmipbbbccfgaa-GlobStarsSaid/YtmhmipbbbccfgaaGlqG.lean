/- The program's Match of a pattern, walked. -/
import Derived.Test.YtmhmipbbbccfgaaGlqF
import Derived.Test.YtmhmipbbbccfgaaGlqM
namespace Go.Proofs.Ytmhmipbbbccfgaa
open Go.ChangeShapes Go.WideShapes Go.ChangeAt Go.RowKit K G13
set_option linter.unusedVariables false

theorem rowsQ_get (l : List Pc) (i : Nat) (h : i < l.length) : (rowsQ l).getD i [] = (pArr l[i]).toList := by
  unfold rowsQ
  simp [List.getD, h]
theorem pArr_4 (p : Pc) : (pArr p).toList[4]? = some (.bool p.isAny) := rfl
theorem pArr_k (p : Pc) (k : Nat) (h : k < 4) : (pArr p).toList[k]? = some (wV (hq p) k) := by
  have : k = 0 ∨ k = 1 ∨ k = 2 ∨ k = 3 := by omega
  rcases this with rfl | rfl | rfl | rfl <;> rfl
/-- A piece of a list that is read. -/
theorem rd_at {w : World} {ao : Option Addr} {l : List Pc} (h : RdRw w 52 5 ao (rowsQ l)) {i : Nat} (hi : i < l.length) :
    ∃ g o, ao = some ⟨g, o, none⟩ ∧ w.cell? ⟨g, o + i * 5 + 4, none⟩ = some (.bool (l[i]).isAny) ∧ ∀ k, k < 4 → w.cell? ⟨g, o + i * 5 + k, none⟩ = some (wV (hq l[i]) k) := by
  rcases h with h | ⟨g, o, ha, -, hc⟩
  · rw [rowsQ_len] at h; omega
  · refine ⟨g, o, ha, ?_, fun k hk => ?_⟩
    · rw [hc i (by rw [rowsQ_len]; exact hi) 4 (by omega), rowsQ_get l i hi, pArr_4]
    · rw [hc i (by rw [rowsQ_len]; exact hi) k (by omega), rowsQ_get l i hi, pArr_k _ k hk]
theorem hit_byt (p : Pc) (s : List UInt8) (a : Nat) (h : a < s.length) : hq p (byt s a) = p.hit s[a] := by
  unfold hq
  have : byt s a = (s[a]).toNat := by simp [byt, h]
  rw [this]; simp
theorem qpcs_len : ∀ (k : Nat) (s : List UInt8) (l : List Pc), pcs k s = some l → l.length ≤ s.length
  | 0, _, _, h => by cases h
  | k + 1, [], l, h => by simp only [pcs] at h; injection h with h; subst h; simp
  | k + 1, c :: t, l, h => by
    have step : ∀ (x : Pc) (r : List UInt8), r.length ≤ t.length → (pcs k r).map (x :: ·) = some l → l.length ≤ (c :: t).length := by
      intro x r hr e
      obtain ⟨y, hy, rfl⟩ := Option.map_eq_some_iff.1 e
      have := qpcs_len k r y hy
      simp only [List.length_cons]; omega
    simp only [pcs] at h
    split at h
    · exact step _ t (Nat.le_refl _) h
    · split at h
      · exact step _ t (Nat.le_refl _) h
      · split at h
        · split at h
          · cases h
          · next f r hs => exact step _ r (Nat.le_of_lt (st_len hs)) h
        · split at h
          · split at h
            · cases h
            · next d r => exact step _ r (by simp) h
          · exact step _ t (Nat.le_refl _) h
theorem qlG_len {p : List UInt8} (h : eG p = 0) : (lG p).length ≤ 256 := by
  unfold eG at h
  split at h
  · omega
  · next hl =>
    split at h
    · omega
    · unfold lG
      cases hp : pieces p with
      | none => simp
      | some l =>
        have := qpcs_len _ _ _ hp
        show l.length ≤ 256
        omega
/-- The rounds. -/
def McRel (l : List Pc) (s : List UInt8) (n : Nat) (w : World) (g : Nat) (v5 v6 v7 v8 : Value) (wr : World) : Prop :=
  ∃ i a g0 f, v5 = .int .i64 (i : Nat) ∧ v6 = .int .i64 (a : Nat) ∧ v7 = .int .i64 (g0 : Nat) ∧ v8 = .int .i64 (f : Nat) ∧ GrAt l s i a g0 f ∧ (s.length - f) * (l.length + 1) + (l.length - i) ≤ g ∧ ∃ k, wr = w.drewN k
theorem mc_next {n L f f' i : Nat} (hf : f ≤ f') (hi : i < L) : (n - f') * (L + 1) + (L - (i + 1)) < (n - f) * (L + 1) + (L - i) := by
  have : (n - f') * (L + 1) ≤ (n - f) * (L + 1) := Nat.mul_le_mul_right _ (by omega)
  omega
theorem mc_back {n L f i g : Nat} (hf : f < n) : (n - (f + 1)) * (L + 1) + (L - g) < (n - f) * (L + 1) + (L - i) := by
  have : (n - f) * (L + 1) = (n - (f + 1)) * (L + 1) + (L + 1) := by
    rw [show n - f = (n - (f + 1)) + 1 by omega, Nat.add_mul]; omega
  omega
set_option maxRecDepth 100000 in
set_option maxHeartbeats 2000000 in
theorem pmatch_walk (w : World) (b : Nat) (p s : List UInt8) (h : GlR w b p) (hs : s.length ≤ 10000) :
    Calls Try.prog 12 #[.pointer (some ⟨b, 0, none⟩), .string (bs s)] w fun e w' => e = .returned (.bool (mt (lG p) s)) ∧ Below w.heap.size w w' := by
  obtain ⟨he, ao, cap, hP, hR⟩ := h
  have hL : (lG p).length ≤ 256 := qlG_len he
  generalize lG p = l at *
  have c1 := cellRow hP 1
  simp only [List.getElem?_toArray, List.getElem?_cons_zero, List.getElem?_cons_succ] at c1
  have HC := Lib.hid (show ∀ k, (w.drewN k).cell? ⟨b, 1, none⟩ = some (.slice ao l.length cap) from fun k => c1)
  have HR := Lib.hid hR
  have H0 := Lib.hid (show McRel l s l.length w (s.length * (l.length + 1) + l.length) (.int .i64 0) (.int .i64 0) (.int .i64 0) (.int .i64 0) w from ⟨0, 0, 0, 0, rfl, rfl, rfl, rfl, gr_start l s, by simp, 0, rfl⟩)
  clear hP hR c1 he
  go_enter Try.func12, Try.ntmps12
  go_wp2
  go_loopg [5, 6, 7, 8] (s.length * (l.length + 1) + l.length) (fun g v5 v6 v7 v8 wr => McRel l s l.length w g v5 v6 v7 v8 wr)
  case atStart => exact H0.out
  case round =>
    obtain ⟨i, a, g0, f, rfl, rfl, rfl, rfl, hG, hg, kk, rfl⟩ := hrel
    clear H0
    obtain ⟨h1, h2, h3, h4, h5⟩ := hG
    have HG := Lib.hid (show GrAt l s i a g0 f from ⟨h1, h2, h3, h4, h5⟩)
    clear h5
    have hc := HC.out kk
    by_cases ha : a < s.length
    · by_cases hi : i < l.length
      · obtain ⟨g, o, rfl, c4, ck⟩ := rd_at HR.out hi
        have c4' : (w.drewN kk).cell? ⟨g, o + i * 5 + 4, none⟩ = some (.bool (l[i]).isAny) := c4
        cases hany : (l[i]).isAny
        · rw [hany] at c4'
          have hat : hq l[i] (byt s a) = (l[i]).hit s[a] := hit_byt l[i] s a ha
          have HH := Lib.hid (fun n => hs_walk (hq l[i]) g (o + i * 5) (byt s a) (byt_lt s a) (w.drewN n) ck)
          rw [hat] at HH
          cases hh : (l[i]).hit s[a]
          · rw [hh] at HH
            have HM := Lib.hid (show ∀ h : i < l.length, (l[i]).isAny = false ∧ (l[i]).hit s[a] = false from fun h => ⟨hany, hh⟩)
            clear c4 ck hany hh hat
            have HK := Lib.hid (show ∀ m, (w.drewN kk).drewN m = w.drewN (kk + m) from fun m => by simp [World.drewN_drewN])
            have HH2 := Lib.hid (show ∀ m, Calls Try.prog 25 #[.pointer (some ⟨g, o + i * 5, none⟩), .int .u8 (byt s a : Nat)] ((w.drewN kk).drewN m) fun e w' => e = .returned (.bool false) ∧ (w.drewN kk).drewN m = w' from fun m => by rw [HK.out m]; exact HH.out _)
            obtain ⟨w5, hw5⟩ : ∃ w5, w.drewN kk = w5 := ⟨_, rfl⟩
            rw [hw5] at hc c4' HK HH2
            have HW5 := Lib.hid hw5
            clear hw5 HH
            by_cases hg0 : 0 < g0
            · have HS := Lib.hid (gr_back HG.out hg0 ha HM.out)
              have hg0i : (0 : Int) < (g0 : Int) := by omega
              have hfa : f < s.length := by omega
              have hms := mc_back (L := l.length) (i := i) (g := g0) hfa
              rw [HW5.out]
              go_wp2_with fail
              go_quiet ((go_at_call 25; refine Calls.quiet_mk (HH2.out _)))
              go_wp2
              go_roundg ((s.length - (f + 1)) * (l.length + 1) + (l.length - g0))
              case measure => omega
              case rel => exact ⟨g0, f + 1, g0, f + 1, rfl, rfl, rfl, rfl, HS.out, Nat.le_refl _, _, HK.out _⟩
            · obtain rfl : g0 = 0 := by omega
              have HS := Lib.hid (gr_none HG.out ha HM.out)
              rw [HW5.out]
              go_wp2_with fail
              go_quiet ((go_at_call 25; refine Calls.quiet_mk (HH2.out _)))
              go_wp2
              go_ret
              rw [HS.out, HK.out]
              exact ⟨rfl, Below_drewN2 (Below.refl _ _) _⟩
          · rw [hh] at HH
            have HS := Lib.hid (gr_hit HG.out hi ha hany hh)
            have hms := mc_next (n := s.length) (L := l.length) (f := f) (f' := f) (Nat.le_refl _) hi
            clear c4 ck hany hh hat
            have HK := Lib.hid (show ∀ m, (w.drewN kk).drewN m = w.drewN (kk + m) from fun m => by simp [World.drewN_drewN])
            have HH2 := Lib.hid (show ∀ m, Calls Try.prog 25 #[.pointer (some ⟨g, o + i * 5, none⟩), .int .u8 (byt s a : Nat)] ((w.drewN kk).drewN m) fun e w' => e = .returned (.bool true) ∧ (w.drewN kk).drewN m = w' from fun m => by rw [HK.out m]; exact HH.out _)
            obtain ⟨w5, hw5⟩ : ∃ w5, w.drewN kk = w5 := ⟨_, rfl⟩
            rw [hw5] at hc c4' HK HH2
            have HW5 := Lib.hid hw5
            clear hw5 HH
            rw [HW5.out]
            go_wp2_with fail
            go_quiet ((go_at_call 25; refine Calls.quiet_mk (HH2.out _)))
            go_wp2
            go_roundg ((s.length - f) * (l.length + 1) + (l.length - (i + 1)))
            case measure => omega
            case rel => exact ⟨i + 1, a + 1, g0, f, by simp, by simp, rfl, rfl, HS.out, Nat.le_refl _, _, HK.out _⟩
        · rw [hany] at c4'
          have HS := Lib.hid (gr_star HG.out hi hany)
          have hms := mc_next (n := s.length) (L := l.length) (f := f) (f' := a) h3 hi
          clear c4 ck hany
          go_wp2_with fail
          go_roundg ((s.length - a) * (l.length + 1) + (l.length - (i + 1)))
          case measure => omega
          case rel => exact ⟨i + 1, a, i + 1, a, by simp, rfl, by simp, rfl, HS.out, Nat.le_refl _, kk, rfl⟩
      · have HM := Lib.hid (show ∀ h : i < l.length, (l[i]).isAny = false ∧ (l[i]).hit s[a] = false from fun h => absurd h hi)
        have hi2 : ¬ ((i : Nat) : Int) < ((l.length : Nat) : Int) := by omega
        have hi3 : decide (((i : Nat) : Int) < ((l.length : Nat) : Int)) = false := decide_eq_false hi2
        have hi4 : decide (i < l.length) = false := decide_eq_false hi
        have HK := Lib.hid (show ∀ m, (w.drewN kk).drewN m = w.drewN (kk + m) from fun m => by simp [World.drewN_drewN])
        obtain ⟨w5, hw5⟩ : ∃ w5, w.drewN kk = w5 := ⟨_, rfl⟩
        rw [hw5] at hc HK
        have HW5 := Lib.hid hw5
        clear hw5
        by_cases hg0 : 0 < g0
        · have HS := Lib.hid (gr_back HG.out hg0 ha HM.out)
          have hg0i : (0 : Int) < (g0 : Int) := by omega
          have hfa : f < s.length := by omega
          have hms := mc_back (L := l.length) (i := i) (g := g0) hfa
          rw [HW5.out]
          go_wp2_with fail
          go_quiet (fail)
          go_wp2
          go_roundg ((s.length - (f + 1)) * (l.length + 1) + (l.length - g0))
          case measure => omega
          case rel => exact ⟨g0, f + 1, g0, f + 1, rfl, rfl, rfl, rfl, HS.out, Nat.le_refl _, _, HK.out _⟩
        · obtain rfl : g0 = 0 := by omega
          have HS := Lib.hid (gr_none HG.out ha HM.out)
          rw [HW5.out]
          go_wp2_with fail
          go_quiet (fail)
          go_wp2
          go_ret
          rw [HS.out, HK.out]
          exact ⟨rfl, Below_drewN2 (Below.refl _ _) _⟩
    · obtain rfl : a = s.length := by omega
      have HE := Lib.hid (gr_end HG.out)
      clear HG hg
      go_wp2_with fail
      go_loopg [5] (l.length - i) (fun g v5 wr => ∃ j, v5 = .int .i64 (j : Nat) ∧ i ≤ j ∧ j ≤ l.length ∧ l.length - j ≤ g ∧ (l.drop i).all Pc.isAny = (l.drop j).all Pc.isAny ∧ wr = w.drewN kk)
      case atStart => exact ⟨i, rfl, Nat.le_refl _, h1, Nat.le_refl _, rfl, rfl⟩
      case round =>
        obtain ⟨j, rfl, hij, hj, hjg, hall, rfl⟩ := hrel
        have HALL := Lib.hid hall
        clear hall
        by_cases hjl : j < l.length
        · obtain ⟨g, o, rfl, c4, ck⟩ := rd_at HR.out hjl
          have c4' : (w.drewN kk).cell? ⟨g, o + j * 5 + 4, none⟩ = some (.bool (l[j]).isAny) := c4
          have HN := Lib.hid (all_next hjl)
          clear c4 ck
          cases hany : (l[j]).isAny
          · rw [hany] at c4' HN
            have hne : ((j : Int) == (l.length : Int)) = false := by rw [beq_eq_false_iff_ne]; omega
            have hne2 : (j == l.length) = false := by rw [beq_eq_false_iff_ne]; omega
            clear hany
            go_wp2_with fail
            go_ret
            rw [HE.out, HALL.out, HN.out]
            exact ⟨rfl, Below_drewN2 (Below.refl _ _) _⟩
          · rw [hany] at c4' HN
            clear hany
            go_wp2_with fail
            go_roundg (l.length - (j + 1))
            case measure => omega
            case rel => exact ⟨j + 1, by simp, by omega, by omega, Nat.le_refl _, by rw [HALL.out, HN.out]; simp, rfl⟩
        · obtain rfl : j = l.length := by omega
          go_wp2_with fail
          go_ret
          rw [HE.out, HALL.out, List.drop_length]
          exact ⟨by simp, Below_drewN2 (Below.refl _ _) _⟩
end Go.Proofs.Ytmhmipbbbccfgaa
