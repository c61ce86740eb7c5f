/- Texts on the program and on the document, joined: ValE, ValL. -/
import Derived.Test.YtkmfcnilbmckmaaGreatDoorMa29
import Derived.Test.YtkmfcnilbmckmaaGreatDoorMa33
import Derived.Test.YtkmfcnilbmckmaaGreatDoorMa28
import Derived.Test.YtkmfcnilbmckmaaGreatDoorMa24
import Derived.Lib.ItoaMem
import Derived.Lib.AppendIntMem
import Derived.ProofKit
/- The document's Show of values, walked. -/
namespace Go.Proofs.YtkmfcnilbmckmaaGreatDoor
open Go.ChangeShapes Go.WideShapes Go.ChangeAt Go.RowKit K P1 B5
set_option linter.unusedVariables false

/-- The numbers of an address. -/
def adT (l : List UInt8) : Nat → List UInt8
  | 0 => []
  | i + 1 => adT l i ++ (if i = 0 then [] else [46]) ++ O6.nm (byt l i)
/-- Two digits for each byte. -/
def hxT (l : List UInt8) : Nat → List UInt8
  | 0 => []
  | i + 1 => hxT l i ++ [U4.hd (byt l i / 16), U4.hd (byt l i % 16)]
theorem hxT_len (l : List UInt8) : ∀ i, (hxT l i).length = 2 * i
  | 0 => rfl
  | i + 1 => by
    show (hxT l i ++ [_, _]).length = _
    rw [List.length_append, hxT_len l i]; simp; omega
theorem nm_len20 (n : Nat) : (O6.nm n).length ≤ 20 := O6.dg_len 20 n
theorem adT_len (l : List UInt8) : ∀ i, (adT l i).length ≤ 21 * i
  | 0 => Nat.le_refl _
  | i + 1 => by
    show (adT l i ++ (if i = 0 then [] else [46]) ++ O6.nm (byt l i)).length ≤ _
    have h1 := adT_len l i
    have h2 := nm_len20 (byt l i)
    rw [List.length_append, List.length_append]
    by_cases h : i = 0
    · rw [if_pos h]; simp only [List.length_nil]; omega
    · rw [if_neg h]; simp only [List.length_cons, List.length_nil]; omega
/-- What is shown. -/
def shV (k n : Int) (s : List UInt8) : List UInt8 :=
  if k = 2 then (if n < 0 then 45 :: O6.nm (V7.uu (-n)) else O6.nm (V7.uu n))
  else if k = 65 ∨ k = 66 ∨ k = 67 ∨ k = 70 then O6.nm (V7.uu n)
  else if k = 4 then U4.shown s
  else if k = 64 then adT s 4
  else if k = 68 then hxT s s.length
  else s
def shT (k n : Int) (s : List UInt8) : List UInt8 := if V7.ckV k n s then shV k n s else []
def AdRel (s : List UInt8) (w : World) (g : Nat) (v5 v6 : Value) (wr : World) : Prop :=
  ∃ i : Nat, i + g = 4 ∧ v6 = .int .i64 (i : Nat) ∧ v5 = .string (bs (adT s i)) ∧ Vr wr w.heap.size 64 0 s ∧ Below w.heap.size w wr
def HxRel (s : List UInt8) (w : World) (g : Nat) (v5 v8 : Value) (wr : World) : Prop :=
  ∃ i : Nat, i + g = s.length ∧ v8 = .int .i64 (i : Nat) ∧ v5 = .string (bs (hxT s i)) ∧ Vr wr w.heap.size 68 0 s ∧ Below w.heap.size w wr
theorem hex_getV (d : Nat) (h : d < ({ data := #[48, 49, 50, 51, 52, 53, 54, 55, 56, 57, 97, 98, 99, 100, 101, 102] } : ByteArray).size) : ({ data := #[48, 49, 50, 51, 52, 53, 54, 55, 56, 57, 97, 98, 99, 100, 101, 102] } : ByteArray)[d]'h = U4.hd d := by
  have h16 : ∀ i : Fin 16, (#[48, 49, 50, 51, 52, 53, 54, 55, 56, 57, 97, 98, 99, 100, 101, 102] : Array UInt8)[i.val]'(i.isLt) = U4.hd i.val := by decide +kernel
  exact h16 ⟨d, h⟩
theorem rc_two_drew {P : Program} (src e dst : TypeId) (hs : P.underlying src = some (.slice e)) (he : P.underlying e = some (.int .u8)) (hd : P.underlying dst = some .string) :
    ∀ (w : World) (x y : Int), (convert src dst (.slice (some ⟨w.heap.size, 0, none⟩) 2 2)).run P (w.alloc (.cells #[.int .u8 x, .int .u8 y] e)).drew = .ok (.string (bs [b8 x.toNat, b8 y.toNat])) (w.alloc (.cells #[.int .u8 x, .int .u8 y] e)).drew := by
  intro w x y
  rw [run_convert_bytes_arg (P := P) (w.alloc (.cells #[.int .u8 x, .int .u8 y] e)).drew src e hs he w.heap.size 0 2 2 [x, y] rfl _ dst hd]
  · rfl
  · intro i hi
    show (w.alloc (.cells #[.int .u8 x, .int .u8 y] e)).cell? _ = _
    rw [cellRow (rowNew w _)]
    obtain rfl | rfl : i = 0 ∨ i = 1 := by omega
    all_goals rfl
theorem Below_ad {B : Nat} {w x : World} {o : Obj} (h : Below B w x) (hs : B ≤ x.heap.size) : Below B w (x.alloc o).drew :=
  ⟨(h.alloc hs o).os, (h.alloc hs o).tape, (h.alloc hs o).output, (h.alloc hs o).size, (h.alloc hs o).block⟩
theorem b8_of (x : UInt8) : b8 x.toNat = x := by simp [b8]
set_option maxRecDepth 100000 in
theorem qshow_no (k n : Int) (s : List UInt8) (hs : s.length ≤ 140737488351232) (h : V7.ckV k n s = false) (w : World) :
    Calls Tryz.prog 13 #[.agg #[.int .i64 k, .int .i64 n, .string (bs s)]] w fun e w' => e = .returned (.tuple #[.string (bs (shT k n s)), .int .i64 (V7.ckE k n s : Nat)]) ∧ Below w.heap.size w w' := by
  have hC := fun w1 => qcheck_walk k n s hs w1
  have e1 : shT k n s = [] ∧ V7.ckE k n s = 70 := by unfold shT V7.ckE; rw [h]; exact ⟨rfl, rfl⟩
  rw [e1.2] at hC
  rw [e1.1, e1.2]
  have HC := Lib.hid hC
  clear hC h e1
  go_enter Tryz.func13, Tryz.ntmps13
  go_wp2_with fail
  refine (HC.out _).mono ?_
  rintro e w1 ⟨rfl, b1⟩
  go_wp2
  go_ret2
  exact ⟨rfl, Below_in b1⟩
set_option maxRecDepth 100000 in
set_option maxHeartbeats 4000000 in
theorem qshow_yes (k n : Int) (s : List UInt8) (hs : s.length ≤ 10000 ∨ 65535 < s.length) (n0 : -9223372036854775808 ≤ n) (n1 : n ≤ 9223372036854775807) (h : V7.ckV k n s = true) (w : World) :
    Calls Tryz.prog 13 #[.agg #[.int .i64 k, .int .i64 n, .string (bs s)]] w fun e w' => e = .returned (.tuple #[.string (bs (shT k n s)), .int .i64 (V7.ckE k n s : Nat)]) ∧ Below w.heap.size w w' := by
  have e2 : V7.ckE k n s = 0 := by unfold V7.ckE; rw [h]; rfl
  have e3 : shT k n s = shV k n s := by unfold shT; rw [h]; rfl
  have hw := V7.ways h
  have hlen : s.length ≤ 10000 := by
    cases hw with
    | int hk hs _ _ => subst hs; simp
    | text hk hn hs2 => rcases hs with hs | hs <;> omega
    | null hk hn hs => subst hs; simp
    | oid hk hn l hl hs =>
      have h1 := O6.put_len l (O6.isArcs_le hl)
      have h2 := (O6.isArcs_len hl).2
      rw [← hs]; omega
    | addr hk hn hs => omega
    | count hk hs _ _ => subst hs; simp
    | big hk hs => subst hs; simp
  have hC := fun w1 => qcheck_walk k n s (by omega) w1
  rw [e2] at hC
  rw [e2, e3]
  have HC := Lib.hid hC
  have hvn := Vr.new w k n s
  have hv : ∀ w1, Below (w.alloc (.cells #[.int .i64 k, .int .i64 n, .string (bs s)] 24)).heap.size (w.alloc (.cells #[.int .i64 k, .int .i64 n, .string (bs s)] 24)) w1 → Vr w1 w.heap.size k n s := fun w1 b => hvn.below b
  have HV := Lib.hid hv
  clear hC h e2 e3 hvn hv hs
  cases hw with
  | int hk hs h0 h1 =>
    subst hk hs
    have e : shV 2 n [] = if n < 0 then 45 :: O6.nm (V7.uu (-n)) else O6.nm (V7.uu n) := rfl
    rw [e]
    clear e
    by_cases hneg : n < 0
    · rw [if_pos hneg]
      have HD := Lib.hid (fun w1 => qdec_walk (V7.uu (-n)) (V7.uu_lt _) w1)
      have hl := nm_len20 (V7.uu (-n))
      have hu := u64_wrap (-n)
      have hng : IntKind.i64.wrap (-n) = -n := IntWalk.i64_in _ (by omega)
      generalize ((V7.uu (-n) : Nat) : Int) = U at *
      generalize O6.nm (V7.uu (-n)) = T at *
      have hcat : ({ data := #[45] } : ByteArray) ++ bs T = bs (45 :: T) := bs_append [45] T
      go_enter Tryz.func13, Tryz.ntmps13
      go_wp2_with fail
      refine (HC.out _).mono ?_
      rintro e w1 ⟨rfl, b1⟩
      obtain ⟨z0, z1, z2⟩ := HV.out _ b1
      have b2 := Below_in b1
      clear b1
      go_wp2_with fail
      refine (HD.out _).mono ?_
      rintro e w2 ⟨rfl, b3⟩
      go_wp2
      go_ret2
      exact ⟨rfl, b2.trans (b3.mono b2.size)⟩
    · rw [if_neg hneg]
      have HD := Lib.hid (fun w1 => qdec_walk (V7.uu n) (V7.uu_lt _) w1)
      have hu := u64_wrap n
      have hneg0 : 0 ≤ n := by omega
      generalize ((V7.uu n : Nat) : Int) = U at *
      generalize O6.nm (V7.uu n) = T at *
      go_enter Tryz.func13, Tryz.ntmps13
      go_wp2_with fail
      refine (HC.out _).mono ?_
      rintro e w1 ⟨rfl, b1⟩
      obtain ⟨z0, z1, z2⟩ := HV.out _ b1
      have b2 := Below_in b1
      clear b1
      go_wp2_with fail
      refine (HD.out _).mono ?_
      rintro e w2 ⟨rfl, b3⟩
      go_wp2
      go_ret2
      exact ⟨rfl, b2.trans (b3.mono b2.size)⟩
  | text hk hn hs =>
    subst hn
    rcases hk with rfl | rfl
    · have e : shV 4 0 s = U4.shown s := rfl
      rw [e]
      clear e
      have HD := Lib.hid (fun w1 => qshown_walk s hlen w1)
      generalize U4.shown s = T at *
      go_enter Tryz.func13, Tryz.ntmps13
      go_wp2_with fail
      refine (HC.out _).mono ?_
      rintro e w1 ⟨rfl, b1⟩
      obtain ⟨z0, z1, z2⟩ := HV.out _ b1
      have b2 := Below_in b1
      clear b1
      go_wp2_with fail
      refine (HD.out _).mono ?_
      rintro e w2 ⟨rfl, b3⟩
      go_wp2
      go_ret2
      exact ⟨rfl, b2.trans (b3.mono b2.size)⟩
    · have e : shV 68 0 s = hxT s s.length := rfl
      rw [e]
      clear e
      have hcv := run_conv_two (P := Tryz.prog) 53 5 9 Tryz.underlying53 Tryz.underlying5 Tryz.underlying9
      have hcd := rc_two_drew (P := Tryz.prog) 53 5 9 Tryz.underlying53 Tryz.underlying5 Tryz.underlying9
      go_enter Tryz.func13, Tryz.ntmps13
      go_wp2_with fail
      refine (HC.out _).mono ?_
      rintro e w1 ⟨rfl, b1⟩
      have hvr := HV.out _ b1
      obtain ⟨z0, z1, z2⟩ := hvr
      have b2 := Below_in b1
      clear b1
      go_wp2_with fail
      go_loopg [5, 8] s.length (fun g v5 v8 wr => HxRel s w g v5 v8 wr)
      case atStart => exact ⟨0, by omega, rfl, rfl, ⟨z0, z1, z2⟩, b2⟩
      case round =>
        obtain ⟨i, hi, rfl, rfl, hvw, hb⟩ := hrel
        have hvw0 := Lib.hid hvw
        obtain ⟨y0, y1, y2⟩ := hvw
        clear z0 z1 z2 b2
        cases gk with
        | zero =>
          obtain rfl : i = s.length := by omega
          go_wp2
          go_ret2
          exact ⟨rfl, hb⟩
        | succ g =>
          have hlt : i < s.length := by omega
          have hbb := byt_lt s i
          have hT : hxT s (i + 1) = hxT s i ++ [U4.hd (byt s i / 16), U4.hd (byt s i % 16)] := rfl
          have hxl := hxT_len s i
          have HT := Lib.hid hT
          have e1 : IntKind.u8.wrap (((byt s i : Nat) : Int) / 16) = ((byt s i / 16 : Nat) : Int) := by rw [IntWalk.u8_in _ (by omega)]; omega
          have e2 : IntKind.u8.wrap (((byt s i : Nat) : Int) % 16) = ((byt s i % 16 : Nat) : Int) := by rw [IntWalk.u8_in _ (by omega)]; omega
          have e3 : ((byt s i : Nat) : Int).tmod 16 = ((byt s i % 16 : Nat) : Int) := by rw [IntWalk.rem_in _ _ (by omega)]; omega
          have p1 : byt s i / 16 < 16 := by omega
          have p2 : byt s i % 16 < 16 := by omega
          clear hT
          generalize hxT s i = X at *
          generalize byt s i / 16 = p at *
          generalize byt s i % 16 = q at *
          have e4 : IntKind.u8.wrap (q : Int) = (q : Int) := IntWalk.u8_in _ (by omega)
          go_wp2_with fail
          go_region_with (fail)
          all_goals
            go_wp2
            go_roundg g
            case measure => omega
            case rel =>
              refine ⟨i + 1, by omega, by simp, ?_, hvw0.out.below (by first | exact alloc_in _ _ | exact Below_ad (Below.refl _ _) (Nat.le_refl _)), by first | exact hb.alloc hb.size _ | exact Below_ad hb hb.size⟩
              rw [HT.out]; simp [hex_getV, b8_of]
  | null hk hn hs =>
    subst hk hn hs
    have e : shV 5 0 [] = [] := rfl
    rw [e]
    clear e
    go_enter Tryz.func13, Tryz.ntmps13
    go_wp2_with fail
    refine (HC.out _).mono ?_
    rintro e w1 ⟨rfl, b1⟩
    obtain ⟨z0, z1, z2⟩ := HV.out _ b1
    have b2 := Below_in b1
    clear b1
    go_wp2
    go_ret2
    exact ⟨rfl, b2⟩
  | oid hk hn l hl hs =>
    subst hk hn
    have e : shV 6 0 s = s := rfl
    rw [e]
    clear e hl hs
    go_enter Tryz.func13, Tryz.ntmps13
    go_wp2_with fail
    refine (HC.out _).mono ?_
    rintro e w1 ⟨rfl, b1⟩
    obtain ⟨z0, z1, z2⟩ := HV.out _ b1
    have b2 := Below_in b1
    clear b1
    go_wp2
    go_ret2
    exact ⟨rfl, b2⟩
  | addr hk hn hs =>
    subst hk hn
    have e : shV 64 0 s = adT s 4 := rfl
    rw [e]
    clear e
    go_enter Tryz.func13, Tryz.ntmps13
    go_wp2_with fail
    refine (HC.out _).mono ?_
    rintro e w1 ⟨rfl, b1⟩
    obtain ⟨z0, z1, z2⟩ := HV.out _ b1
    have b2 := Below_in b1
    clear b1
    go_wp2_with fail
    go_loopg [5, 6] 4 (fun g v5 v6 wr => AdRel s w g v5 v6 wr)
    case atStart => exact ⟨0, by omega, rfl, rfl, ⟨z0, z1, z2⟩, b2⟩
    case round =>
      obtain ⟨i, hi, rfl, rfl, hvw, hb⟩ := hrel
      have hvw0 := Lib.hid hvw
      obtain ⟨y0, y1, y2⟩ := hvw
      clear z0 z1 z2 b2
      cases gk with
      | zero =>
        obtain rfl : i = 4 := by omega
        go_wp2
        go_ret2
        exact ⟨rfl, hb⟩
      | succ g =>
        have hbb := byt_lt s i
        have HD := Lib.hid (fun w1 => qdec_walk (byt s i) (by omega) w1)
        have hl := nm_len20 (byt s i)
        have hal := adT_len s i
        have hT : adT s (i + 1) = adT s i ++ (if i = 0 then [] else [46]) ++ O6.nm (byt s i) := rfl
        have hci : i = 0 ∨ 0 < i := by omega
        generalize O6.nm (byt s i) = NM at *
        rcases hci with rfl | hi0
        · rw [if_pos rfl, List.append_nil] at hT
          have HT := Lib.hid hT
          clear hT
          generalize adT s 0 = X at *
          go_wp2_with fail
          refine (HD.out _).mono ?_
          rintro e w2 ⟨rfl, b3⟩
          have hv2 := Lib.hid (hvw0.out.below b3)
          have hb2 := hb.trans (b3.mono hb.size)
          clear y0 y1 y2 b3 hb
          go_wp2
          go_roundg g
          case measure => omega
          case rel => exact ⟨0 + 1, by omega, rfl, by rw [HT.out], hv2.out, hb2⟩
        · rw [if_neg (by omega)] at hT
          have HT := Lib.hid hT
          clear hT
          generalize adT s i = X at *
          go_wp2_with fail
          refine (HD.out _).mono ?_
          rintro e w2 ⟨rfl, b3⟩
          have hv2 := Lib.hid (hvw0.out.below b3)
          have hb2 := hb.trans (b3.mono hb.size)
          clear y0 y1 y2 b3 hb
          have hcat : bs X ++ ({ data := #[46] } : ByteArray) = bs (X ++ [46]) := bs_append X [46]
          go_wp2
          go_roundg g
          case measure => omega
          case rel => exact ⟨i + 1, by omega, by simp, by rw [HT.out]; simp, hv2.out, hb2⟩
  | count hk hs h0 h1 =>
    subst hs
    have e : shV k n [] = O6.nm (V7.uu n) := by unfold shV; rw [if_neg (by omega), if_pos (by omega)]
    rw [e]
    have HD := Lib.hid (fun w1 => qdec_walk (V7.uu n) (V7.uu_lt _) w1)
    have hu := u64_wrap n
    generalize ((V7.uu n : Nat) : Int) = U at *
    generalize O6.nm (V7.uu n) = T at *
    clear e
    rcases hk with rfl | rfl | rfl
    all_goals
      go_enter Tryz.func13, Tryz.ntmps13
      go_wp2_with fail
      refine (HC.out _).mono ?_
      rintro e w1 ⟨rfl, b1⟩
      obtain ⟨z0, z1, z2⟩ := HV.out _ b1
      have b2 := Below_in b1
      clear b1
      go_wp2_with fail
      refine (HD.out _).mono ?_
      rintro e w2 ⟨rfl, b3⟩
      go_wp2
      go_ret2
      exact ⟨rfl, b2.trans (b3.mono b2.size)⟩
  | big hk hs =>
    subst hk hs
    have e : shV 70 n [] = O6.nm (V7.uu n) := rfl
    rw [e]
    have HD := Lib.hid (fun w1 => qdec_walk (V7.uu n) (V7.uu_lt _) w1)
    have hu := u64_wrap n
    generalize ((V7.uu n : Nat) : Int) = U at *
    generalize O6.nm (V7.uu n) = T at *
    clear e
    go_enter Tryz.func13, Tryz.ntmps13
    go_wp2_with fail
    refine (HC.out _).mono ?_
    rintro e w1 ⟨rfl, b1⟩
    obtain ⟨z0, z1, z2⟩ := HV.out _ b1
    have b2 := Below_in b1
    clear b1
    go_wp2_with fail
    refine (HD.out _).mono ?_
    rintro e w2 ⟨rfl, b3⟩
    go_wp2
    go_ret2
    exact ⟨rfl, b2.trans (b3.mono b2.size)⟩
end Go.Proofs.YtkmfcnilbmckmaaGreatDoor
/- strconv.FormatUint at base 10, walked at this translation. -/
namespace Go.Proofs.YtkmfcnilbmckmaaGreatDoor
open Go.ChangeShapes Go.WideShapes Go.ChangeAt Go.RowKit K O6
open Go.Sort (putRow Holds putRow_grow_new alloc_eq_grow cell?_putRow)
set_option linter.unusedVariables false

theorem nm_dec (u : Nat) (h : u < 18446744073709551616) : (⟨(Lib.decDigits u).toArray⟩ : ByteArray) = bs (nm u) := by
  have e : nm u = Lib.decDigits u := dec_dg 20 u (by omega) (by omega)
  rw [e]; rfl
theorem below_row (w : World) (o : Obj) (dk : Array UInt8) (k : Nat) : Below w.heap.size w ((putRow (fun (b : UInt8) => Value.int .u8 (b.toNat : Int)) (w.alloc o) w.heap.size 0 dk).drewN k) := by
  obtain ⟨os, e⟩ := Lib.fin_at w o dk k 0
  rw [e]
  exact Lib.below_grow _ _ (Nat.le_refl _) _ _
set_option maxRecDepth 100000 in
set_option maxHeartbeats 4000000 in
theorem formatUintIn_walk (u : Nat) (hu : u < 18446744073709551616) (w : World) (htab : Lib.TabIs Tryz.prog w "internal/strconv.uint64pow10" .u64 Lib.pow10Tab) :
    Calls Tryz.prog 62 #[.int .u64 u, .int .i64 10] w fun e w' => e = .returned (.string (bs (nm u))) ∧ Below w.heap.size w w' := by
  rw [← nm_dec u hu]
  by_cases h100 : u < 100
  · have HS := Lib.hid (fun w1 => Tryz.internal_strconv_small u h100 w1)
    have hw1 : IntKind.i64.wrap ((u : Nat) : Int) = (u : Nat) := IntWalk.i64_in _ (by omega)
    have hlt : ((u : Nat) : Int) < 100 := by omega
    go_enter Tryz.func62, Tryz.ntmps62
    go_wp2_with fail
    refine (HS.out _).mono ?_
    rintro e w1 ⟨rfl, rfl⟩
    go_wp2
    go_ret
    exact ⟨rfl, Below.refl _ _⟩
  · have hge : (100 : Int) ≤ ((u : Nat) : Int) := by omega
    have hnd20 : Lib.nDigits u ≤ 20 := by have := Lib.numDigits_eq u (by omega) hu; split at this <;> omega
    have HND := Lib.hid (fun w1 (h : Lib.TabIs Tryz.prog w1 "internal/strconv.uint64pow10" .u64 Lib.pow10Tab) => Tryz.internal_strconv_numDigits u (by omega) hu w1 h)
    have HTA := Lib.hid (fun o => Lib.tabIs_alloc htab o)
    have hH0 := Lib.holds_zero0 w 99 (Lib.nDigits u) (by omega)
    have hfmt := Tryz.internal_strconv_formatBase10 w.heap.size 0 24 u (Array.replicate (Lib.nDigits u) 0) (w.alloc (.cells Lib.zeros24 99)) hH0 (by rw [Array.size_replicate]; exact Lib.lt_pow_nDigits u) hu (by rw [Array.size_replicate]; omega)
    rw [Array.size_replicate] at hfmt
    have HH0 := Lib.hid hH0
    have HF := Lib.hid hfmt
    clear hH0 hfmt
    have hsl1 : ∀ W, (Instr.sliceAt 99 (.pointer (some ⟨w.heap.size, 0, none⟩)) none (some (.int .i64 (Lib.nDigits u : Int))) none).run Tryz.prog W = .ok (.slice (some ⟨w.heap.size, 0, none⟩) (Lib.nDigits u) 24) W := fun W => by
      have hal : Tryz.prog.arrayLen 99 = 24 := by kernel_rfl
      rw [run_sliceAt_array_h W 99 ⟨w.heap.size, 0, none⟩ (by kernel_rfl) .i64 (Lib.nDigits u : Int) (by omega) (by rw [hal]; omega)]
      go_simp
    go_enter Tryz.func62, Tryz.ntmps62
    go_wp2_with fail
    refine (HND.out _ (HTA.out _)).mono ?_
    rintro e w' ⟨rfl, rfl⟩
    go_wp2_with fail
    refine HF.out.mono ?_
    rintro e w' ⟨rfl, k, v', dk, rfl, hF⟩
    have hcv : (convert 53 9 (.slice (some ⟨w.heap.size, 0, none⟩) (Lib.nDigits u) 24)).run Tryz.prog ((putRow (fun (b : UInt8) => Value.int .u8 (b.toNat : Int)) (w.alloc (.cells Lib.zeros24 99)) w.heap.size 0 dk).drewN k) = .ok (.string ⟨(Lib.decDigits u).toArray⟩) ((putRow (fun (b : UInt8) => Value.int .u8 (b.toNat : Int)) (w.alloc (.cells Lib.zeros24 99)) w.heap.size 0 dk).drewN k) := by
      have h := run_convert_bytes_back (P := Tryz.prog) ((putRow (fun (b : UInt8) => Value.int .u8 (b.toNat : Int)) (w.alloc (.cells Lib.zeros24 99)) w.heap.size 0 dk).drewN k) 53 9 5 ⟨w.heap.size, 0, none⟩ 24 (Lib.decDigits u) Tryz.underlying53 Tryz.underlying5 Tryz.underlying9 (fun j hj => by
        rw [Lib.row_is_numeral hF j hj, Lib.add_plain, World.cell?_drewN]
        exact cell?_putRow (fun (b : UInt8) => Value.int .u8 (b.toNat : Int)) _ w.heap.size 0 _ dk HH0.out (by rw [hF.size, Array.size_replicate]) j (by rw [hF.size]; rw [Lib.decDigits_length] at hj; exact hj))
      rw [Lib.decDigits_length] at h
      exact h
    have hbr := below_row w (.cells Lib.zeros24 99) dk k
    go_wp2
    go_ret
    exact ⟨rfl, hbr⟩
theorem formatUint_walk (u : Nat) (hu : u < 18446744073709551616) (w : World) (T : Tabs w) :
    Calls Tryz.prog 29 #[.int .u64 u, .int .i64 10] w fun e w' => e = .returned (.string (bs (nm u))) ∧ Below w.heap.size w w' := by
  have HI := Lib.hid (formatUintIn_walk u hu w T.2.2.2)
  generalize nm u = R at *
  go_enter Tryz.func29, Tryz.ntmps29
  go_wp2_with fail
  refine HI.out.mono ?_
  rintro e w1 ⟨rfl, b1⟩
  go_wp2
  go_ret
  exact ⟨rfl, b1⟩
end Go.Proofs.YtkmfcnilbmckmaaGreatDoor
