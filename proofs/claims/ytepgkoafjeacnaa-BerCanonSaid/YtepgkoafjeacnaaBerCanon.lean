/- The shortest form of any element is no longer, as deep, and its own shortest form; what is wrapped, part by part, is in its shortest form: gonglaw05.BerCanon answers true at every input, and its arguments read as before. No condition. -/
import Derived.Test.YtepgkoafjeacnaaBerK
import Derived.SizedLaws
import Derived.Deep.DeepHandedRow
import Derived.ShutString
import Derived.OpenShut
namespace Go.Proofs.Ytepgkoafjeacnaa
open Go.ChangeShapes Go.WideShapes Go.ChangeAt Go.RowKit K P1 B5
open Go.ChangeMaps (open_string shut_string)
set_option linter.unusedVariables false

namespace berCanon
theorem own : ownKnob Try.prog.godebug = none := by kernel_rfl
theorem laidOut : laidOutB Try.prog = true := by kernel_rfl
theorem walk (l : List UInt8) (hl : l.length ≤ reachBytes) (v : Value) {B : Nat} {w : World} (g : Rdg Try.prog w 30 v.cells.toList) (ok : Value.okWide Try.prog w .any B 30 v) (w' : World) (hw : w = w') :
    Calls Try.prog 5 #[.string (bs l), v] w fun e w' => e = .returned (.bool true) ∧ Below w.heap.size w w' := by
  obtain ⟨ao, len, cap, rfl⟩ := okWide_slice Try.underlying30 ok
  obtain ⟨ns, ha⟩ := Rdg.nums g Try.underlying30 Try.underlying3 (by kernel_rfl) (by rw [show Try.prog.bytesOf 3 = 8 by kernel_rfl]; omega) (by decide)
  exact berCanon_walk (fun _ => True) ber_ok.toBerOk rep_ok l (by unfold reachBytes at hl; omega) ao len cap ns w ha trivial

/-! ### The row's step -/
set_option maxRecDepth 100000 in
theorem lifted (os : Os) (started : os.Started) (H : Type) (enc : TypeId × Value → H) :
    ReturnsInHanded {} Try.checked os 5 .any (Rows.berCanonSpec.pre6 enc Try.prog Try.f5 Rows.berCanonRow.domain false) (Rows.berCanonSpec.post enc Try.prog Try.f5 false true false false) := by
  refine returnsInHanded_of_change_sized (C := Try.checked) own started (by kernel_rfl) Try.func5
    (ChangeSpec.witness6 (enc := enc) (C := Try.checked) false ⟨#[], #[.string ByteArray.empty, .slice none 0 0], []⟩ 8 (by kernel_rfl) (by kernel_rfl) (by kernel_rfl) (by kernel_rfl)) ?_
  intro W base args ds gs before hval0 hW hcnd hsz0 _
  have hval : ∀ (j : Nat) t v, Try.f5.params[j]? = some t → args[j]? = some v → Value.okWide Try.prog W .any base t v := hval0
  have hW' := hW
  obtain ⟨p, q, hA0, hV, rfl, hfz, hnd⟩ := hW
  have hA : DataW.TrodAll enc Try.prog W 0 (fun _ => true) true Try.f5.params.toList args.toList ds p := hA0
  have hsz : (DataW.weightsEach Try.prog (Try.f5.params.toList ++ Rows.berCanonSpec.plain.varTypes Try.prog) (ds ++ gs)).all (· ≤ reachBytes) = true := hsz0
  rw [Try.params5] at hA hval hsz
  obtain ⟨v0, vs0, d0, ds0, p0, q0, hargs, rfl, rfl, h0, r0⟩ := trodAll_cons hA
  obtain ⟨v1, vs1, d1, ds1, p1, q1, rfl, rfl, rfl, h1, r1⟩ := trodAll_cons r0
  obtain ⟨rfl, rfl, rfl⟩ := trodAll_nil r1
  obtain rfl : args = #[v0, v1] := by cases args; simp_all
  obtain ⟨rfl, rfl⟩ := trodVars_none hV
  have k0 := h0
  obtain ⟨a0, rfl, rfl, rfl, w0⟩ := open_string Try.underlying9 (hval 0 9 v0 rfl rfl) h0
  obtain ⟨l0, e0, b0⟩ := (Rdg.of k0 hsz (j := 0) rfl rfl).string Try.underlying9
  obtain rfl : a0 = bs l0 := by simpa [Value.cells] using e0
  have k1 := h1
  have lt1 : ∀ x ∈ p1, x.block < W.heap.size := by obtain ⟨m, hm⟩ := k1; exact DataW.trod_lt m _ _ _ hm
  have ok1 := hval 1 30 v1 rfl rfl
  have g1 := Rdg.of k1 hsz (j := 1) rfl rfl
  clear hA0 hval0 hsz0
  refine (walk l0 b0 v1 g1 ok1 W rfl).mono fun e W' ⟨he, bel⟩ => ?_
  subst he
  exact ⟨_, rfl, _, _, _, [], _, [], hW', trodAll_mk1 (shut_bool Try.underlying4 _), (trodAll_cons_mk (shut_string Try.underlying9 w0) (trodAll_cons_mk (Below.trod laidOut (by kernel_rfl) (of_decide_eq_true (by kernel_rfl)) k1 bel lt1) trodAll_mk0)), rfl, bel.frame _, fun h => by cases h⟩

theorem over : Rows.berCanonRow.holds Try.pinned (OpenSpec.ofChange Rows.berCanonSpec) :=
  OpenClaim.holds_of_wide 5 Try.f5 rfl rfl rfl rfl rfl rfl rfl ⟨rfl, rfl, rfl, rfl, rfl⟩ rfl rfl rfl rfl rfl (by kernel_rfl) Try.func5 (by kernel_rfl)
    (of_decide_eq_true (by kernel_rfl)) (by unfold Func.isWrapper; first | (rw [if_pos (by decide +kernel)]; kernel_rfl) | (rw [if_neg (by decide +kernel)]; exact ⟨rfl, rfl⟩))
    (fun os started H enc _ => lifted os started H enc)

theorem proved : Rows.BerCanonSaid := over
#print axioms proved
end berCanon
end Go.Proofs.Ytepgkoafjeacnaa
