/-
  ChachaQuarter: whatever four numbers of 32 bits are handed in, the call returns true: what Quarter makes of them Back makes undone, and the other way round.
-/
import Derived.Test.YtfmghneagggilaaFrame
import Derived.Test.YtfmghneagggilaaChaWord
import Derived.Test.YtfmghneagggilaaEq4
namespace Go.Proofs.Ytfmghneagggilaa.chachaQuarter
open Go.ChangeShapes Go.WideShapes Go.ChangeAt Go.RowKit
open cha

def K : Q := ⟨0x11111111, 0x01020304, 0x9b8d6f43, 0x01234567⟩
theorem K_a : (qr K).a = 3928658676 := by decide +kernel

set_option maxRecDepth 100000 in
set_option maxHeartbeats 1600000 in
theorem walk_any (q : Q) (h : q.Ok) (w : World) :
    Calls Try.prog 7 #[.int .u32 q.a, .int .u32 q.b, .int .u32 q.c, .int .u32 q.d] w fun e w' => e = .returned (.bool true) ∧ Below w.heap.size w w' := by
  have g1 := quarter_any q h
  have g2 := back_any (qr q) (qr_ok h)
  have g3 := back_any q h
  have g4 := quarter_any (un q) (un_ok h)
  have g5 := quarter_any K ⟨by decide, by decide, by decide, by decide⟩
  rw [un_qr h] at g2
  rw [qr_un h] at g4
  have hK := K_a
  clear h
  generalize qr K = k at *
  generalize qr q = r at *
  generalize un q = u at *
  obtain ⟨a, b, c, d⟩ := q
  obtain ⟨ra, rb, rc, rd⟩ := r
  obtain ⟨ua, ub, uc, ud⟩ := u
  obtain ⟨ka, kb, kc, kd⟩ := k
  obtain rfl : ka = 3928658676 := hK
  have f1 : ∀ w, Calls Try.prog 9 #[.int .u32 a, .int .u32 b, .int .u32 c, .int .u32 d] w fun e w' => e = .returned (.tuple #[.int .u32 ra, .int .u32 rb, .int .u32 rc, .int .u32 rd]) ∧ w' = w := g1
  have f2 : ∀ w, Calls Try.prog 10 #[.int .u32 ra, .int .u32 rb, .int .u32 rc, .int .u32 rd] w fun e w' => e = .returned (.tuple #[.int .u32 a, .int .u32 b, .int .u32 c, .int .u32 d]) ∧ w' = w := g2
  have f3 : ∀ w, Calls Try.prog 10 #[.int .u32 a, .int .u32 b, .int .u32 c, .int .u32 d] w fun e w' => e = .returned (.tuple #[.int .u32 ua, .int .u32 ub, .int .u32 uc, .int .u32 ud]) ∧ w' = w := g3
  have f4 : ∀ w, Calls Try.prog 9 #[.int .u32 ua, .int .u32 ub, .int .u32 uc, .int .u32 ud] w fun e w' => e = .returned (.tuple #[.int .u32 a, .int .u32 b, .int .u32 c, .int .u32 d]) ∧ w' = w := g4
  have f5 : ∀ w, Calls Try.prog 9 #[.int .u32 286331153, .int .u32 16909060, .int .u32 2609737539, .int .u32 19088743] w fun e w' => e = .returned (.tuple #[.int .u32 3928658676, .int .u32 kb, .int .u32 kc, .int .u32 kd]) ∧ w' = w := g5
  clear g1 g2 g3 g4 g5
  have E1 := eq4 a b c d
  go_enter Try.func7, Try.ntmps7
  go_wp2_with (first
    | (go_at_call 9; (first | (with_reducible refine (f1 _).mono ?_) | (with_reducible refine (f4 _).mono ?_) | (with_reducible refine (f5 _).mono ?_)); rintro e w1 ⟨rfl, rfl⟩)
    | (go_at_call 10; (first | (with_reducible refine (f2 _).mono ?_) | (with_reducible refine (f3 _).mono ?_)); rintro e w1 ⟨rfl, rfl⟩))
  go_ret
  exact ⟨rfl, Below.refl _ _⟩
theorem walk (a : Int) (ha : (Lit.int .u32 a).wf = true) (b : Int) (hb : (Lit.int .u32 b).wf = true) (c : Int) (hc : (Lit.int .u32 c).wf = true) (d : Int) (hd : (Lit.int .u32 d).wf = true) (w : World) :
    Calls Try.prog 7 #[.int .u32 a, .int .u32 b, .int .u32 c, .int .u32 d] w fun e w' => e = .returned (.bool true) ∧ Below w.heap.size w w' := by
  obtain ⟨h0, h1⟩ := u32_bd ha
  obtain ⟨h2, h3⟩ := u32_bd hb
  obtain ⟨h4, h5⟩ := u32_bd hc
  obtain ⟨h6, h7⟩ := u32_bd hd
  obtain ⟨x, rfl⟩ : ∃ k : Nat, a = (k : Int) := ⟨a.toNat, by omega⟩
  obtain ⟨y, rfl⟩ : ∃ k : Nat, b = (k : Int) := ⟨b.toNat, by omega⟩
  obtain ⟨z, rfl⟩ : ∃ k : Nat, c = (k : Int) := ⟨c.toNat, by omega⟩
  obtain ⟨v, rfl⟩ : ∃ k : Nat, d = (k : Int) := ⟨d.toNat, by omega⟩
  exact walk_any ⟨x, y, z, v⟩ ⟨by show x < _; omega, by show y < _; omega, by show z < _; omega, by show v < _; omega⟩ w

/-! ### The row's step -/
set_option maxRecDepth 100000 in
theorem lifted (os : Os) (started : os.Started) (H : Type) (enc : TypeId × Value → H) :
    ReturnsInHanded {} Try.checked os 7 .any (Rows.chachaQuarterSpec.pre6 enc Try.prog Try.f7 Rows.chachaQuarterRow.domain false) (Rows.chachaQuarterSpec.post enc Try.prog Try.f7 false true false false) := by
  refine returnsInHanded_of_change (C := Try.checked) own started (by kernel_rfl) Try.func7
    (ChangeSpec.witness6 (enc := enc) (C := Try.checked) false ⟨#[], #[.int .u32 0, .int .u32 0, .int .u32 0, .int .u32 0], []⟩ 8 (by kernel_rfl) (by kernel_rfl) (by kernel_rfl) (by kernel_rfl)) ?_
  intro W base args ds gs before hval0 hW _ _
  have hval : ∀ (j : Nat) t v, Try.f7.params[j]? = some t → args[j]? = some v → Value.okWide Try.prog W .any base t v := hval0
  have hW' := hW
  obtain ⟨p, q, hA0, hV, rfl, hfz, hnd⟩ := hW
  have hA : DataW.TrodAll enc Try.prog W 0 (fun _ => true) true Try.f7.params.toList args.toList ds p := hA0
  rw [Try.params7] at hA hval
  obtain ⟨v0, vs0, d0, ds0, p0, q0, hargs, rfl, rfl, h0, r0⟩ := trodAll_cons hA
  obtain ⟨v1, vs1, d1, ds1, p1, q1, rfl, rfl, rfl, h1, r1⟩ := trodAll_cons r0
  obtain ⟨v2, vs2, d2, ds2, p2, q2, rfl, rfl, rfl, h2, r2⟩ := trodAll_cons r1
  obtain ⟨v3, vs3, d3, ds3, p3, q3, rfl, rfl, rfl, h3, r3⟩ := trodAll_cons r2
  obtain ⟨rfl, rfl, rfl⟩ := trodAll_nil r3
  obtain rfl : args = #[v0, v1, v2, v3] := by cases args; simp_all
  obtain ⟨rfl, rfl⟩ := trodVars_none hV
  obtain ⟨s0, rfl, rfl, rfl, m0⟩ := open_int Try.underlying22 (hval 0 22 v0 rfl rfl) h0
  obtain ⟨s1, rfl, rfl, rfl, m1⟩ := open_int Try.underlying22 (hval 1 22 v1 rfl rfl) h1
  obtain ⟨s2, rfl, rfl, rfl, m2⟩ := open_int Try.underlying22 (hval 2 22 v2 rfl rfl) h2
  obtain ⟨s3, rfl, rfl, rfl, m3⟩ := open_int Try.underlying22 (hval 3 22 v3 rfl rfl) h3
  clear hA0 hval0
  simp only [List.append_nil] at hW'
  refine (walk s0 m0 s1 m1 s2 m2 s3 m3 W).mono fun e W' ⟨he, hg⟩ => ?_
  subst he
  exact ⟨_, rfl, _, _, _, [], [], [], hW', trodAll_cons_mk (shut_bool Try.underlying4 _) trodAll_mk0, (trodAll_cons_mk (shut_int Try.underlying22 m0) (trodAll_cons_mk (shut_int Try.underlying22 m1) (trodAll_cons_mk (shut_int Try.underlying22 m2) (trodAll_cons_mk (shut_int Try.underlying22 m3) trodAll_mk0)))), rfl, hg.frame _, fun h => by cases h⟩

/-- THE STATEMENT. -/
theorem proved : Rows.ChachaQuarterSaid :=
  OpenClaim.holds_of_wide 7 Try.f7 rfl rfl rfl rfl rfl rfl rfl ⟨rfl, rfl, rfl, rfl, rfl⟩ rfl rfl rfl rfl rfl (by kernel_rfl) Try.func7 (by kernel_rfl)
    (of_decide_eq_true (by kernel_rfl)) (by unfold Func.isWrapper; first | (rw [if_pos (by decide +kernel)]; kernel_rfl) | (rw [if_neg (by decide +kernel)]; exact ⟨rfl, rfl⟩))
    (fun os started H enc _ => lifted os started H enc)
end Go.Proofs.Ytfmghneagggilaa.chachaQuarter
