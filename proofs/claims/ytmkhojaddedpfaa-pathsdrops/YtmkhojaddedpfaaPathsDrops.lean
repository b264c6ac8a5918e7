/-
  PathsDrops: whatever steps a table was made by, whoever is dropped: All tells what others have, as it was, Drop how many were taken out, a second Drop none; and no address is found to be the peer's any more.
-/
import Derived.Test.YtmkhojaddedpfaaKeepTable
import Derived.Deep.AppendLies
namespace Go.Proofs.Ytmkhojaddedpfaa.pathsDrops
open Go.ChangeShapes Go.WideShapes Go.ChangeAt Go.RowKit
open pth

set_option maxRecDepth 100000 in
set_option maxHeartbeats 3200000 in
theorem walk (w : World) (a : Option Addr) (n c : Nat) (zs : List StepV) (hi : Steps w w.heap.size a n zs) (hr : n * 64 ≤ reachBytes) (hz : ∀ z ∈ zs, z.Fits)
    (peer : Int) (hp : (Lit.int .i64 peer).wf = true) (ad : Int) (had : (Lit.int .u32 ad).wf = true) :
    Calls Try.prog 5 #[.slice a n c, .int .i64 peer, .int .u32 ad] w fun e w' => e = .returned (.bool true) ∧ Below w.heap.size w w' := by
  have hrb : reachBytes < 140737488355328 := by decide
  have f0 := table_any w a n c zs hi (by omega) hz
  have f1 := rest_any peer 8 (by decide) (by decide) (int_bd hp)
  obtain ⟨hok, hle⟩ := allL_fits zs hz
  obtain ⟨ax, rfl, hax⟩ : ∃ x : Nat, ad = x ∧ x < 4294967296 := by
    have := u32_bd had
    exact ⟨ad.toNat, by omega, by omega⟩
  generalize allL zs = L at *
  obtain ⟨p, hp'⟩ : ∃ p : Nat, (peer % ((8 : Nat) : Int)).toNat = p := ⟨_, rfl⟩
  rw [hp'] at f1
  have f1' : ∀ W, Calls Try.prog 20 #[.int .i64 peer, .int .i64 8] W fun e w' => e = .returned (.int .i64 (p : Int)) ∧ w' = W := f1
  have p8 : p < 8 := by
    have h1 := Int.emod_lt_of_pos peer (show (0 : Int) < ((8 : Nat) : Int) by decide)
    have h2 := Int.emod_nonneg peer (show ((8 : Nat) : Int) ≠ 0 by decide)
    omega
  obtain ⟨D, hD⟩ : ∃ D, w.heap.size = D := ⟨_, rfl⟩
  rw [hD] at f0 ⊢
  clear hi hr hz hp had f1 hp' hrb
  obtain ⟨i0, hi0, hz0, hz1, hz2⟩ := info_parts infoPATH
  go_enter Try.func5, Try.ntmps5
  go_wp2_with (first
    | (go_at_call 18; (with_reducible refine f0.mono ?_); rintro e w1 ⟨rfl, hX, B, hT, hO⟩)
    | (go_at_call 20; (with_reducible refine (f1' _).mono ?_); rintro e w3 ⟨rfl, hq⟩; have hq := hq.symm; subst hq)
    | (go_at_call 16; (with_reducible refine (All_any D _ _ hle _ hT).mono ?_); rintro e w2 ⟨v2, rfl, hr2, h2⟩; obtain ⟨a2, c2, rfl⟩ := row_slice hr2))
  have hT2 := hT.below h2
  have hX2 := hX.trans (h2.mono (by have := hX.size; omega))
  have hlen2 : ∀ d v k, B d v = some k → k < w2.heap.size := fun d v k hk => hT2.lt hk
  obtain ⟨C, hC⟩ : ∃ C, w2.heap.size = C := ⟨_, rfl⟩
  have hDC : D ≤ C := by have := hX2.size; omega
  have hX20 : Below C w2 w2 := Below.refl _ _
  have HR2 : Hid (w2.ownsRow w1.heap.size 42 3 (.slice a2 L.length c2) L.length (rows L)) := hr2
  have HT2 : Hid (Tab w2 D L B) := hT2
  clear hT f0 f1' hr2 h2 hX hT2
  go_loopw [8, 23] (fun r i wr => ∃ k v, k ≤ L.length ∧ v = r ∧ i = .int .i64 (k : Int) ∧ wr.ownsRow C 42 3 v (dL (L.take k) p).length (rows (dL (L.take k) p)) ∧ Below C w2 wr) (fun _ i _ => L.length - (intOf i).toNat)
  case atStart => exact ⟨0, _, Nat.zero_le _, rfl, rfl, World.ownsRow_nil _ _ _ _, hX20⟩
  case round =>
    clear hX20
    obtain ⟨k, v, hk, rfl, rfl, hown, hXr⟩ := hrel
    have k0 : (0 : Int) ≤ (k : Int) := by omega
    have k1 : (k : Int) ≤ 64 := by omega
    have l1 : (L.length : Int) ≤ 64 := by omega
    by_cases hlt : k < L.length
    · have d0 : decide ((k : Int) < (L.length : Int)) = true := decide_eq_true (by omega)
      obtain ⟨g, o, hix, hg, _, a1, a2', a3, _⟩ := row_at HR2.out rfl k hlt hlt
      have hgC : g < C := by have := (HR2.out.lt g hg).2; omega
      have hCr : C ≤ wr.heap.size := by have := hXr.size; omega
      replace a1 := (hXr.cell (p := ⟨g, o, none⟩) hgC).trans a1
      replace a2' := (hXr.cell (p := ⟨g, o + 1, none⟩) hgC).trans a2'
      replace a3 := (hXr.cell (p := ⟨g, o + 2, none⟩) hgC).trans a3
      have htk : L.take (k + 1) = L.take k ++ [L[k]] := List.take_succ_eq_append_getElem hlt
      have hlen := dL_len (L.take k) p
      have hlt' : (dL (L.take k) p).length ≤ 64 := by rw [List.length_take] at hlen; omega
      by_cases hpe : (L[k].2.2 : Int) = p
      · have HD : Hid (dL (L.take (k + 1)) p = dL (L.take k) p) := by show _ = _; rw [htk, dL_app, dL_same hpe, List.append_nil]
        generalize dL (L.take k) p = M at *
        rw [hpe] at a3
        generalize L[k].1 = y1 at *
        generalize L[k].2.1 = y2 at *
        have t0 : ((p : Int) != (p : Int)) = false := by simp
        have HO : Hid (wr.ownsRow C 42 3 v M.length (rows M)) := hown
        clear hown hpe hlen htk hg hgC
        go_wp2
        go_roundw
        case rel => exact ⟨k + 1, v, by omega, rfl, by go_num, by rw [HD.out]; exact HO.out.alloc _, hXr.alloc hCr _⟩
        case measure => simp [intOf]; omega
      · have HD : Hid (dL (L.take (k + 1)) p = dL (L.take k) p ++ [L[k]]) := by show _ = _; rw [htk, dL_app, dL_other hpe]
        have t0 : ((L[k].2.2 : Int) != (p : Int)) = true := by rw [bne_iff_ne]; exact hpe
        generalize dL (L.take k) p = M at *
        generalize L[k] = x at *
        have HO : Hid (wr.ownsRow C 42 3 v M.length (rows M)) := hown
        have HRl : Hid (rows (M ++ [x]) = rows M ++ cells3 x) := by show _ = _; rw [rows_app, rows_one]
        have HV : Hid (∀ j, v.ownBlock = some j → C ≤ j) := fun j hj => (hown.lt j hj).1
        clear hown hpe hlen htk hg hgC
        go_wp2_with (at_builtin; refine wpList_append_own_at _ rfl _ _ 27 rfl C 42 i0 _ 3 24 Try.underlying27 hi0 hz0 hz1 hz2 rfl (by omega) _ M.length _ rfl ((HO.out.alloc _).alloc _) ⟨wr.heap.size + 1, 0, none⟩ 1 1 (cells3 x) rfl rfl (World.news_of_block (cs := (cells3 x).toArray) (t := 42) (fr := (0, 0)) (by have := heap_alloc_new (wr.alloc (.cells (cells3 x).toArray 42)) (.cells (cells3 x).toArray 42); rw [World.size_alloc] at this; exact this)) (by simp [cells3, Value.oneCell']) (by unfold maxLen; omega) (by omega) (by simp; omega) ?_; intro v' w4 hown4 hgrow4 _ _)
        go_roundw
        case rel =>
          refine ⟨k + 1, v', by omega, rfl, by go_num, ?_, ?_⟩
          · rw [HD.out, HRl.out, List.length_append]; exact hown4
          · exact ((hXr.alloc hCr _).alloc (by simp; omega) _).grown hgrow4 (by simp; omega) (fun j hj => HV.out j hj)
        case measure => simp [intOf]; omega
    · obtain rfl : k = L.length := by omega
      have d0 : decide ((L.length : Int) < (L.length : Int)) = false := decide_eq_false (by omega)
      rw [List.take_of_length_le (Nat.le_refl _)] at hown
      obtain ⟨av, cv, rfl⟩ := row_slice hown
      have hle2 : (dL L p).length ≤ 64 := Nat.le_trans (dL_len L p) hle
      have hdd : dL (dL L p) p = dL L p := by
        unfold dL
        rw [List.filter_filter]
        simp
      have hT := HT2.out.mono (w' := wr) (fun d v k hk => hXr.block k (by have := hlen2 d v k hk; omega))
      have hX := hX2.trans (hXr.mono hDC)
      have hCr : C ≤ wr.heap.size := by have := hXr.size; omega
      have hV : ∀ j, (Value.slice av (dL L p).length cv).ownBlock = some j → C ≤ j ∧ j < wr.heap.size := fun j hj => hown.lt j hj
      have hsep : ∀ j, (Value.slice av (dL L p).length cv).ownBlock = some j → ¬ OwnB B j := fun j hj ⟨d, u, hB⟩ => by
        have := hlen2 d u j hB
        have := (hV j hj).1
        omega
      have HK : Hid (∀ q, lng (dL L p) ax 33 = some q → q ≠ p) := fun q hq e => by
        obtain ⟨x, hx, _, _, h3, _⟩ := lng_some (dL_ok hok p) 33 q hq
        have := (List.mem_filter.1 hx).2
        simp only [ne_eq, decide_eq_true_eq] at this
        omega
      have n1 : ((dL L p).length : Int) ≤ 64 := by omega
      have n2 : (0 : Int) ≤ ((dL L p).length : Int) := by omega
      have f3 := fun W hW => Drop_any D L B p hle W hW
      have hRow := hown
      clear hown hXr HR2 HT2 hlen2
      go_wp2_with (first
        | (go_at_call 16; (with_reducible refine (All_any D _ _ hle _ hT).mono ?_); rintro e w5 ⟨v5, rfl, hr5, h5⟩; obtain ⟨a5, c5, rfl⟩ := row_slice hr5
           have hT5 := hT.below h5
           have hX5 := hX.trans (h5.mono (by omega))
           have hRow5 := row_below hRow h5 (fun j hj => (hV j hj).2)
           have hs5 := h5.size)
        | (go_at_call 9; (with_reducible refine (f3 _ hT5).mono ?_); rintro e w6 ⟨rfl, B2, hT6, ht6⟩
           have hX6 := hX5.trans (turns_below ht6 (by omega) hO)
           have hRow6 := row_turns hRow5 ht6 hsep
           have hO6 := turns_own ht6 (by omega) hO
           have hs6 := ht6.low.size))
      have f4 := fun W B' hW => Drop_any D (dL L p) B' p hle2 W hW
      rw [hdd, Int.sub_self] at f4
      refine (All_any D _ _ hle2 _ hT6).mono ?_
      rintro e w7 ⟨v7, rfl, hr7, h7⟩
      obtain ⟨a7, c7, rfl⟩ := row_slice hr7
      have hT7 := hT6.below h7
      have hX7 := hX6.trans (h7.mono (by omega))
      have hRow7 := row_below hRow6 h7 (fun j hj => by have := (hV j hj).2; omega)
      have f5 := Eq_any _ _ (dL L p) (dL L p) rfl rfl (by omega) w7 (row_mono hr7 (Nat.zero_le _)) (row_mono hRow7 (Nat.zero_le _))
      rw [decide_eq_true rfl] at f5
      have f6 := fun W B' hW => Find_any D (dL L p) B' ax hax W hW
      have t1 : (((L.length : Int) - ((dL L p).length : Int)) != ((L.length : Int) - ((dL L p).length : Int))) = false := by simp
      cases hq : lng (dL L p) ax 33 with
      | none =>
        rw [hq] at f6
        clear HK hq f3 hdd
        go_wp2_with (first
          | (go_at_call 15; (with_reducible refine f5.mono ?_); rintro e w8 ⟨rfl, h8⟩
             have hT8 := hT7.below h8
             have hX8 := hX7.trans (h8.mono (by have := h7.size; omega))
             have hs8 := Nat.le_trans h7.size h8.size)
          | (go_at_call 9; (with_reducible refine (f4 _ _ hT8).mono ?_); rintro e w9 ⟨rfl, B4, hT9, ht9⟩
             have hX9 := hX8.trans (turns_below ht9 (by omega) hO6))
          | (go_at_call 13; (with_reducible refine (f6 _ _ hT9).mono ?_); rintro e w10 ⟨rfl, h10⟩
             have hX10 := hX9.trans (h10.mono (by have := ht9.low.size; omega))))
        go_ret
        exact ⟨rfl, hX10⟩
      | some q =>
        rw [hq] at f6
        have hne := HK.out q hq
        have t2 : (((some q).getD 0 : Nat) : Int) ≠ (p : Int) := by simp; omega
        have t3 : ((((some q).getD 0 : Nat) : Int) != (p : Int)) = true := by rw [bne_iff_ne]; exact t2
        have t4 : ((q : Int) != (p : Int)) = true := t3
        clear HK hq f3 hdd hne t2 t3
        go_wp2_with (first
          | (go_at_call 15; (with_reducible refine f5.mono ?_); rintro e w8 ⟨rfl, h8⟩
             have hT8 := hT7.below h8
             have hX8 := hX7.trans (h8.mono (by have := h7.size; omega))
             have hs8 := Nat.le_trans h7.size h8.size)
          | (go_at_call 9; (with_reducible refine (f4 _ _ hT8).mono ?_); rintro e w9 ⟨rfl, B4, hT9, ht9⟩
             have hX9 := hX8.trans (turns_below ht9 (by omega) hO6))
          | (go_at_call 13; (with_reducible refine (f6 _ _ hT9).mono ?_); rintro e w10 ⟨rfl, h10⟩
             have hX10 := hX9.trans (h10.mono (by have := ht9.low.size; omega))))
        go_ret
        exact ⟨rfl, hX10⟩

/-! ### The row's step -/
set_option maxRecDepth 100000 in
theorem lifted (os : Os) (started : os.Started) (H : Type) (enc : TypeId × Value → H) :
    ReturnsInHanded {} Try.checked os 5 .any (Rows.pathsDropsSpec.pre6 enc Try.prog Try.f5 Rows.pathsDropsRow.domain false) (Rows.pathsDropsSpec.post enc Try.prog Try.f5 false true false false) := by
  refine returnsInHanded_of_change_sized (C := Try.checked) own started (by kernel_rfl) Try.func5
    (ChangeSpec.witness6 (enc := enc) (C := Try.checked) false ⟨#[], #[.slice none 0 0, .int .i64 0, .int .u32 0], []⟩ 8 (by kernel_rfl) (by kernel_rfl) (by kernel_rfl) (by kernel_rfl)) ?_
  intro W base args ds gs before hval0 hW _ hz0 _
  have hz : (DataW.weightsEach Try.prog (Try.f5.params.toList ++ Rows.pathsDropsSpec.plain.varTypes Try.prog) (ds ++ gs)).all (· ≤ reachBytes) = true := hz0
  clear hz0
  have hval : ∀ (j : Nat) t v, Try.f5.params[j]? = some t → args[j]? = some v → Value.okWide Try.prog W .any base t v := hval0
  have hW' := hW
  obtain ⟨p, q, hA0, hV, rfl, hfz, hnd⟩ := hW
  have hA : DataW.TrodAll enc Try.prog W 0 (fun _ => true) true Try.f5.params.toList args.toList ds p := hA0
  rw [Try.params5] at hA hval hz
  obtain ⟨v0, vs0, d0, ds0, p0, q0, hargs, rfl, rfl, h0, r0⟩ := trodAll_cons hA
  obtain ⟨v1, vs1, d1, ds1, p1, q1, rfl, rfl, rfl, h1, r1⟩ := trodAll_cons r0
  obtain ⟨v2, vs2, d2, ds2, p2, q2, rfl, rfl, rfl, h2, r2⟩ := trodAll_cons r1
  obtain ⟨rfl, rfl, rfl⟩ := trodAll_nil r2
  obtain rfl : args = #[v0, v1, v2] := by cases args; simp_all
  obtain ⟨rfl, rfl⟩ := trodVars_none hV
  obtain ⟨a0, n0, c0, rfl⟩ := okWide_slice Try.underlying22 (hval 0 22 v0 rfl rfl)
  have l0 : ∀ x ∈ p0, x.block < W.heap.size := fun x hx => by
    have := hW'.lt x (by simp [hx])
    simpa using this
  obtain ⟨z0, i0, b0, e0⟩ := step_open h0 l0
  have y0 : n0 * 64 ≤ reachBytes := by
    rcases e0 with ⟨_, e0⟩ | ⟨es, sp, e0, g0⟩
    · rw [e0]; decide
    · have h := sized_slice hz (j := 0) (t := 22) (e := 34) (by rfl) (by rw [e0]; rfl) Try.underlying22
      rw [bytesSTEP] at h
      try simp only [List.length_append] at h
      omega
  obtain ⟨s1, rfl, rfl, rfl, m1⟩ := open_int Try.underlying3 (hval 1 3 v1 rfl rfl) h1
  obtain ⟨s2, rfl, rfl, rfl, m2⟩ := open_int Try.underlying30 (hval 2 30 v2 rfl rfl) h2
  clear hA0 hval0 hz
  simp only [List.append_nil] at hW'
  refine (walk W a0 n0 c0 z0 i0 y0 b0 s1 m1 s2 m2).mono fun e W' ⟨he, hg⟩ => ?_
  subst he
  exact ⟨_, rfl, _, _, _, [], (p0 ++ ([] ++ ([] ++ []))), [], hW', trodAll_cons_mk (shut_bool Try.underlying4 _) trodAll_mk0, (trodAll_cons_mk (step_shut h0 l0 hg) (trodAll_cons_mk (shut_int Try.underlying3 m1) (trodAll_cons_mk (shut_int Try.underlying30 m2) trodAll_mk0))), rfl, hg.frame _, fun h => by cases h⟩

/-- THE STATEMENT. -/
theorem proved : Rows.PathsDropsSaid :=
  OpenClaim.holds_of_wide 5 Try.f5 rfl rfl rfl rfl rfl rfl rfl ⟨rfl, rfl, rfl, rfl, rfl⟩ rfl rfl rfl rfl rfl (by kernel_rfl) Try.func5 (by kernel_rfl)
    (of_decide_eq_true (by kernel_rfl)) (by unfold Func.isWrapper; first | (rw [if_pos (by decide +kernel)]; kernel_rfl) | (rw [if_neg (by decide +kernel)]; exact ⟨rfl, rfl⟩))
    (fun os started H enc _ => lifted os started H enc)
end Go.Proofs.Ytmkhojaddedpfaa.pathsDrops
