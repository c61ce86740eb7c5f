/- What a framer tells of a stream that is cut at places, walked on calls that keep their word. -/
import Derived.Test.YtndinelljmjfaaaDoorFrmW
import Derived.Test.YtndinelljmjfaaaDoorBook
import Derived.Maps.AppendAt
namespace Go.Proofs.YtndinelljmjfaaaDoor
open Go.ChangeShapes Go.WideShapes Go.ChangeAt Go.RowKit K F12
set_option linter.unusedVariables false

theorem own_kpn {w w' : World} {B : Nat} {T : TypeId} {n : Nat} {v : Value} {m : Nat} {xs : List Value} (h : w.ownsRow B T n v m xs) {S : List Nat} (k : Kp S w w') (hS : ∀ g, v.ownBlock = some g → g ∉ S) : w'.ownsRow B T n v m xs := by
  refine ⟨h.1, ?_⟩
  rcases h.2 with hn | ⟨g, cap, cur, h1, h2, h3, h4⟩
  · exact .inl hn
  · exact .inr ⟨g, cap, cur, h1, h2, k.heap h3 (hS g (by rw [h1]; rfl)), h4⟩
/-- 'append(a, b...)' of texts, and where it lies. -/
theorem spreadSA {ops : Array Oper} {rest : List Oper} {o : Oper} {a : Act} {Q : Exit → Act → World → Prop} {W : World} (hgd : o.guard = none) {s x : Operand} (ho : o.op = .call { callee := .builtin .append, args := #[s, x], argTypes := #[37, 37] }) (v : Value) (hs : a.eval s = v) {B : Nat} {xs ys : List (List UInt8)} (hown : OwnS W B 9 v xs) (hBW : B ≤ W.heap.size)
    {ao : Option Addr} {ca : Nat} (hx : a.eval x = .slice ao ys.length ca) (hr : RdS W ao ys) (hsh : (ao = none ∧ ys.length = 0 ∧ ca = 0) ∨ ∃ a, ao = some a) (hn : xs.length + ys.length ≤ 10000000)
    (h : ∀ v' w', OwnS w' B 9 v' (xs ++ ys) → W.grownBy w' v.ownBlock → (v'.ownBlock = v.ownBlock ∨ v'.ownBlock = some W.heap.size) → wpList Tryd.prog ops Q rest (a.put o.dst v') w') : wpList Tryd.prog ops Q (o :: rest) a W := by
  obtain ⟨i0, hi, hz0, hz1, hz2⟩ := info_of text_info
  rcases hsh with ⟨rfl, h0, rfl⟩ | ⟨ad, rfl⟩
  · have hys : ys = [] := List.length_eq_zero_iff.1 h0
    subst hys
    refine wpList_plain hgd fun K hK => ?_
    have hrun := run_append_owned_none (P := Tryd.prog) (w := W) B 37 o.type 9 i0 1 Tryd.underlying37 hi _ _ _ hown
    unfold Oper.wp
    simp [execOp, ho, resolve, invoke, builtin, hs, hx, hrun, Result.andThen]
    exact hK _ _ (h _ _ (by rw [List.append_nil]; exact hown) ⟨rfl, rfl, rfl, Nat.le_refl _, fun _ _ _ => rfl⟩ (.inl rfl))
  · refine wpList_append_own_at W hgd s x 37 ho B 9 i0 (.string .empty) 1 16 Tryd.underlying37 hi hz0 hz1 hz2 rfl (by decide) v xs.length (txts xs) hs hown ad ys.length ca (txts ys) hx (by rw [txts_len, Nat.mul_one]) hr.each (txts_one ys) (by unfold maxLen; omega) (by omega) hBW ?_
    intro v' w' hown' hg _ hat
    exact h v' w' (OwnS.put hown') hg hat
theorem kp_row {S : List Nat} {b c : World} {row : Option Nat} (k : b.grownBy c row) (hS : ∀ g, row = some g → g ∈ S) : Kp S b c :=
  ⟨k.os, k.tape, k.output, k.size, fun i hi hn => k.block i hi (fun e => hn (hS i e.symm))⟩
theorem fo_row {I : World → Prop} {FR : World → Nat → List Nat → Fs → Prop} (F : FOk I FR) {w w' : World} {b : Nat} {S : List Nat} {st : Fs} (h : FR w b S st) {row : Option Nat} (k : w.grownBy w' row) (hn : ∀ g, row = some g → g ∉ S) : FR w' b S st := by
  refine F.keep (T := row.toList) h (kp_row k (fun g hg => by rw [hg]; simp)) (fun x hx hm => ?_)
  cases row with
  | none => simp at hm
  | some g => simp at hm; subst hm; exact hn _ rfl hx
/-- What fed hands back. -/
def FcPost (m : Nat) (s : List UInt8) (w : World) (e : Ending) (w' : World) : Prop :=
  ∃ ao cap, e = .returned (.tuple #[.slice ao (feed m s).1.length cap, .bool (feed m s).2.isNone, .int .i64 (((feed m s).2.getD []).length : Nat)]) ∧ RdS w' ao (feed m s).1 ∧ Below w.heap.size w w'
def FcRel (FR : World → Nat → List Nat → Fs → Prop) (m n b : Nat) (s : List UInt8) (w : World) (g : Nat) (v11 v12 v13 : Value) (wr : World) : Prop :=
  ∃ (i fr : Nat) (cs : List (List UInt8)) (S : List Nat) (v : Value), i + g = n + 1 ∧ cs.length ≤ i ∧ v = v11 ∧ v13 = .int .i64 (i : Nat) ∧ v12 = .int .i64 (fr : Nat) ∧ fr ≤ s.length ∧ (i = n + 1 → fr = s.length) ∧ cs.flatten = s.take fr ∧ FR wr b S (fold ⟨m, some [], 0⟩ cs).2 ∧ (∀ x ∈ S, w.heap.size ≤ x) ∧ OwnS wr w.heap.size 9 v (fold ⟨m, some [], 0⟩ cs).1 ∧ (∀ g', v.ownBlock = some g' → g' ∉ S) ∧ Below w.heap.size w wr
theorem take_cut (s : List UInt8) (a b : Nat) (h : a ≤ b) (hb : b ≤ s.length) : s.take a ++ (s.drop a).take (b - a) = s.take b := by
  have e : (s.drop a).take (b - a) = (s.take b).drop a := by rw [List.drop_take]
  have : s.take a = (s.take b).take a := by rw [List.take_take, Nat.min_eq_left h]
  rw [e, this, List.take_append_drop]
set_option maxRecDepth 100000 in
set_option maxHeartbeats 1000000 in
theorem fed12_walk (I : World → Prop) (FR : World → Nat → List Nat → Fs → Prop) (F : FOk I FR) (m : Nat) (hm1 : 1 ≤ m) (hm2 : m ≤ 65535) (s : List UInt8) (hs : s.length ≤ 100000) (n : Nat) (ao : Option Addr) (cap : Nat) (ns : Nat → Int) (hn : n ≤ 1000) (hns : ∀ i, i < n → -9223372036854775808 ≤ ns i ∧ ns i ≤ 9223372036854775807) (w : World) (hw : I w) (hr : ∀ wx, Below w.heap.size w wx → n = 0 ∨ ∃ c off, ao = some ⟨c, off, none⟩ ∧ ∀ i, i < n → wx.cell? ⟨c, off + i, none⟩ = some (.int .i64 (ns i))) :
    Calls Tryd.prog 17 #[.int .i64 (m : Nat), .string (bs s), .slice ao n cap] w (FcPost m s w) := by
  have HF := Lib.hid F
  have HI := Lib.hid (fun wx (b : Below w.heap.size w wx) => F.keepI w wx hw b)
  have HR := Lib.hid hr
  have HNS := Lib.hid hns
  have HN := Lib.hid (F.new_ok m w hm1 hm2 hw)
  clear F hw hr hns
  go_enter Tryd.func17, Tryd.ntmps17
  go_wp2_with fail
  refine HN.out.mono ?_
  rintro e w1 ⟨b, S0, rfl, h1, hS0, b1⟩
  go_wp2_with fail
  go_loopg [11, 12, 13] (n + 1) (fun g v11 v12 v13 wr => FcRel FR m n b s w g v11 v12 v13 wr)
  case atStart => exact ⟨0, 0, [], S0, _, by omega, by simp, rfl, rfl, rfl, by omega, by omega, by simp, h1, hS0, OwnS.nil _ _ _, fun g' h => by simp [Value.ownBlock] at h, b1⟩
  case round =>
    obtain ⟨i, fr, cs, S, v, hg, hcsl, rfl, rfl, rfl, hfr, hlast, hcs, hFR, hS, hO, hON, hb⟩ := hrel
    have HFR := Lib.hid hFR
    have HS := Lib.hid hS
    have HO := Lib.hid hO
    have HON := Lib.hid hON
    have HB := Lib.hid hb
    clear hFR hS hO hON hb h1 hS0 b1
    cases gk with
    | zero =>
      have hi : i = n + 1 := by omega
      have hfe := hlast hi
      rw [hfe, List.take_length] at hcs
      obtain ⟨e1, e2⟩ := fold_all m cs
      rw [hcs] at e1 e2
      have HE := Lib.hid (And.intro e1 e2)
      have hO2 := HO.out
      rw [e1] at hO2
      obtain ⟨ao2, ca2, hv2, -, -, hr2, -⟩ := hO2.form
      subst hv2
      have HR2 := Lib.hid hr2
      have hi2 : ¬ ((i : Nat) : Int) ≤ ((n : Nat) : Int) := by omega
      have HD := Lib.hid (HF.out.dead wr b S _ HFR.out)
      have HH := Lib.hid (fun wx h => HF.out.held wx b S (fold ⟨m, some [], 0⟩ cs).2 h)
      clear hcs hfe hlast hO2 hr2 e1 e2
      go_wp2_with fail
      refine HD.out.mono ?_
      rintro e w4 ⟨rfl, d4⟩
      have h4 := HF.out.below HFR.out d4
      have r4 := HR2.out.below d4
      have b4 := HB.out.trans (d4.mono HB.out.size)
      clear d4
      go_wp2_with fail
      refine (HH.out _ h4).mono ?_
      rintro e w5 ⟨rfl, d5⟩
      have r5 := r4.below d5
      have b5 := b4.trans (d5.mono b4.size)
      go_wp2
      go_ret3
      exact ⟨ao2, ca2, by unfold Fs.hold; rw [HE.out.2]; rfl, r5, b5⟩
    | succ g =>
      by_cases hin : i < n
      · have hin1 : ((i : Nat) : Int) ≤ ((n : Nat) : Int) := by omega
        have hin2 : ((i : Nat) : Int) < ((n : Nat) : Int) := by omega
        have hx : ∃ c off, ao = some ⟨c, off, none⟩ ∧ wr.cell? ⟨c, off + i, none⟩ = some (.int .i64 (ns i)) := by
          rcases HR.out wr HB.out with h | ⟨c, off, h1, h2⟩
          · omega
          · exact ⟨c, off, h1, h2 i hin⟩
        obtain ⟨c, off, hao, hc⟩ := hx
        subst hao
        obtain ⟨n1, n2⟩ := HNS.out i hin
        have hbb := belowN_bounds (ns i) ((s.length : Nat) - (fr : Nat) + 1 : Int) (by omega)
        have HBL := Lib.hid (fun wx => below_walk (ns i) ((s.length : Nat) - (fr : Nat) + 1 : Int) n1 n2 (by omega) (by omega) wx)
        obtain ⟨to, hto⟩ : ∃ to : Nat, belowN (ns i) ((s.length : Nat) - (fr : Nat) + 1 : Int) = ((to : Nat) : Int) - (fr : Nat) := ⟨((fr : Int) + belowN (ns i) ((s.length : Nat) - (fr : Nat) + 1 : Int)).toNat, by omega⟩
        rw [hto] at HBL hbb
        obtain ⟨q1, q2⟩ := hbb
        have hto1 : fr ≤ to := by omega
        have hto2 : to ≤ s.length := by omega
        clear hto q1 q2 n1 n2
        go_wp2_with fail
        refine (HBL.out _).mono ?_
        rintro e wq ⟨rfl, rfl⟩
        have hadd : ((fr : Nat) : Int) + (((to : Nat) : Int) - (fr : Nat)) = ((to : Nat) : Int) := by omega
        have HCH := Lib.hid (show (cs ++ [(s.drop fr).take (to - fr)]).flatten = s.take to by rw [List.flatten_append, hcs]; simp only [List.flatten_cons, List.flatten_nil, List.append_nil]; exact take_cut s fr to hto1 hto2)
        have hcl : ((s.drop fr).take (to - fr)).length = to - fr := by rw [List.length_take, List.length_drop]; omega
        have hsn := fold_snoc ⟨m, some [], 0⟩ cs ((s.drop fr).take (to - fr))
        have HE1 := Lib.hid (congrArg Prod.fst hsn)
        have HE2 := Lib.hid (congrArg Prod.snd hsn)
        have hfl := fold_len ⟨m, some [], 0⟩ (cs ++ [(s.drop fr).take (to - fr)])
        rw [HCH.out, HE1.out, List.length_append] at hfl
        simp only [List.length_take, Fs.hold, Option.getD_some, List.length_nil] at hfl
        have hfl0 := fold_len ⟨m, some [], 0⟩ cs
        rw [hcs] at hfl0
        simp only [List.length_take, Fs.hold, Option.getD_some, List.length_nil] at hfl0
        have HTO := Lib.hid hto2
        have hfd := HF.out.feed wr b S (fold ⟨m, some [], 0⟩ cs).2 ((s.drop fr).take (to - fr)) (HI.out _ HB.out) HFR.out (.inr (by rw [hcl]; unfold Fs.hold; omega)) (by omega) (by have hdr := fold_dr ⟨m, some [], 0⟩ cs; simp only [Nat.zero_add] at hdr; omega)
        unfold FdPost at hfd
        have HFD := Lib.hid hfd
        have hll : (fold ⟨m, some [], 0⟩ cs).1.length + ((fold ⟨m, some [], 0⟩ cs).2.msg ((s.drop fr).take (to - fr))).length ≤ 10000000 := by omega
        have HCS := Lib.hid hcs
        clear hsn hfl hfl0 hfd hcl hcs
        go_wp2_with fail
        generalize hck : (s.drop fr).take (to - fr) = ck at *
        have HCK := Lib.hid hck
        clear hck
        generalize (fold ⟨m, some [], 0⟩ cs).1 = outs at *
        generalize (fold ⟨m, some [], 0⟩ cs).2 = st at *
        generalize st.msg ck = ms at *
        generalize st.code ck = cd at *
        generalize st.nxt ck = st2 at *
        refine HFD.out.mono ?_
        rintro e w3 ⟨ao3, ca3, S3, rfl, h3, hS3, r3, n3, sh3, k3, -⟩
        have b3 := kp_new HB.out k3 HS.out
        have o3 : OwnS w3 w.heap.size 9 v outs := own_kpn HO.out k3 HON.out
        have hS3' : ∀ x ∈ S3, w.heap.size ≤ x := fun x hx => (hS3 x hx).elim (HS.out x) (fun h => Nat.le_trans HB.out.size h)
        have hon3 : ∀ g', v.ownBlock = some g' → g' ∉ S3 := by
          intro g' hg hm
          rcases hS3 g' hm with h | h
          · exact HON.out g' hg h
          · have hlt : g' < wr.heap.size := by
              rcases HO.out.2 with ⟨hv, _⟩ | ⟨g2, cap2, cur2, hv, _, hh, _⟩
              · rw [hv] at hg; simp [Value.ownBlock] at hg
              · rw [hv] at hg; simp [Value.ownBlock] at hg; subst hg; exact lt_of_block hh
            omega
        have hBW : w.heap.size ≤ w3.heap.size := b3.size
        clear k3 hS3
        go_wp2_with (at_builtin; refine spreadSA rfl rfl v rfl o3 hBW rfl r3 sh3 hll ?_)
        intro v5 w5 o5 g5 hat5
        have b5 := b3.grown g5 hBW (fun k hk => (World.ownsRow.lt o3 k hk).1)
        have h5 := fo_row HF.out h3 g5 hon3
        have hon5 : ∀ g', v5.ownBlock = some g' → g' ∉ S3 := by
          intro g' hg hm
          rcases hat5 with h | h
          · exact hon3 g' (by rw [← h]; exact hg) hm
          · rw [h] at hg
            injection hg with hg
            have := HF.out.lt h3 g' hm
            omega
        rw [← HE1.out] at o5
        rw [← HE2.out] at h5
        have HO5 := Lib.hid o5
        have HF5 := Lib.hid h5
        have HN5 := Lib.hid hon5
        have HB5 := Lib.hid b5
        have HS5 := Lib.hid hS3'
        clear o3 hS3' hon3 hBW r3 n3 sh3 h3 b3 g5 hat5 o5 h5 hon5 b5 hll
        go_wp2
        go_roundg g
        case measure => omega
        case rel => exact ⟨i + 1, to, cs ++ [ck], S3, v5, by omega, by rw [List.length_append]; simp; omega, rfl, by simp, by simp, HTO.out, by omega, HCH.out, HF5.out, HS5.out, HO5.out, HN5.out, HB5.out⟩
      · have hii : i = n := by omega
        subst hii
        have hin2 : ¬ ((i : Nat) : Int) < ((i : Nat) : Int) := by omega
        have HCH := Lib.hid (show (cs ++ [s.drop fr]).flatten = s.take s.length by rw [List.flatten_append, hcs]; simp only [List.flatten_cons, List.flatten_nil, List.append_nil]; rw [List.take_append_drop, List.take_length])
        have hcl : (s.drop fr).length = s.length - fr := by rw [List.length_drop]
        have hsn := fold_snoc ⟨m, some [], 0⟩ cs (s.drop fr)
        have HE1 := Lib.hid (congrArg Prod.fst hsn)
        have HE2 := Lib.hid (congrArg Prod.snd hsn)
        have hfl := fold_len ⟨m, some [], 0⟩ (cs ++ [s.drop fr])
        rw [HCH.out, HE1.out, List.length_append] at hfl
        simp only [List.length_take, Fs.hold, Option.getD_some, List.length_nil] at hfl
        have hfl0 := fold_len ⟨m, some [], 0⟩ cs
        rw [hcs] at hfl0
        simp only [List.length_take, Fs.hold, Option.getD_some, List.length_nil] at hfl0
        have HTO := Lib.hid (Nat.le_refl s.length)
        have hfd := HF.out.feed wr b S (fold ⟨m, some [], 0⟩ cs).2 (s.drop fr) (HI.out _ HB.out) HFR.out (.inr (by rw [hcl]; unfold Fs.hold; omega)) (by omega) (by have hdr := fold_dr ⟨m, some [], 0⟩ cs; simp only [Nat.zero_add] at hdr; omega)
        unfold FdPost at hfd
        have HFD := Lib.hid hfd
        have hll : (fold ⟨m, some [], 0⟩ cs).1.length + ((fold ⟨m, some [], 0⟩ cs).2.msg (s.drop fr)).length ≤ 10000000 := by omega
        have HCS := Lib.hid hcs
        clear hsn hfl hfl0 hfd hcl hcs
        go_wp2_with fail
        generalize hck : s.drop fr = ck at *
        have HCK := Lib.hid hck
        clear hck
        generalize (fold ⟨m, some [], 0⟩ cs).1 = outs at *
        generalize (fold ⟨m, some [], 0⟩ cs).2 = st at *
        generalize st.msg ck = ms at *
        generalize st.code ck = cd at *
        generalize st.nxt ck = st2 at *
        refine HFD.out.mono ?_
        rintro e w3 ⟨ao3, ca3, S3, rfl, h3, hS3, r3, n3, sh3, k3, -⟩
        have b3 := kp_new HB.out k3 HS.out
        have o3 : OwnS w3 w.heap.size 9 v outs := own_kpn HO.out k3 HON.out
        have hS3' : ∀ x ∈ S3, w.heap.size ≤ x := fun x hx => (hS3 x hx).elim (HS.out x) (fun h => Nat.le_trans HB.out.size h)
        have hon3 : ∀ g', v.ownBlock = some g' → g' ∉ S3 := by
          intro g' hg hm
          rcases hS3 g' hm with h | h
          · exact HON.out g' hg h
          · have hlt : g' < wr.heap.size := by
              rcases HO.out.2 with ⟨hv, _⟩ | ⟨g2, cap2, cur2, hv, _, hh, _⟩
              · rw [hv] at hg; simp [Value.ownBlock] at hg
              · rw [hv] at hg; simp [Value.ownBlock] at hg; subst hg; exact lt_of_block hh
            omega
        have hBW : w.heap.size ≤ w3.heap.size := b3.size
        clear k3 hS3
        go_wp2_with (at_builtin; refine spreadSA rfl rfl v rfl o3 hBW rfl r3 sh3 hll ?_)
        intro v5 w5 o5 g5 hat5
        have b5 := b3.grown g5 hBW (fun k hk => (World.ownsRow.lt o3 k hk).1)
        have h5 := fo_row HF.out h3 g5 hon3
        have hon5 : ∀ g', v5.ownBlock = some g' → g' ∉ S3 := by
          intro g' hg hm
          rcases hat5 with h | h
          · exact hon3 g' (by rw [← h]; exact hg) hm
          · rw [h] at hg
            injection hg with hg
            have := HF.out.lt h3 g' hm
            omega
        rw [← HE1.out] at o5
        rw [← HE2.out] at h5
        have HO5 := Lib.hid o5
        have HF5 := Lib.hid h5
        have HN5 := Lib.hid hon5
        have HB5 := Lib.hid b5
        have HS5 := Lib.hid hS3'
        clear o3 hS3' hon3 hBW r3 n3 sh3 h3 b3 g5 hat5 o5 h5 hon5 b5 hll
        go_wp2
        go_roundg g
        case measure => omega
        case rel => exact ⟨i + 1, s.length, cs ++ [ck], S3, v5, by omega, by rw [List.length_append]; simp; omega, rfl, by simp, by simp, HTO.out, by omega, HCH.out, HF5.out, HS5.out, HO5.out, HN5.out, HB5.out⟩
end Go.Proofs.YtndinelljmjfaaaDoor
