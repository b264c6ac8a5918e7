/-
  CurveClamped: whatever two texts are handed in as a key and a number (cut, or lengthened by bytes 0, to 32 bytes), the call returns true: what was clamped is so; a key and what it is clamped to are the same; the highest bit of a number is of no matter, nor P more.
-/
import Derived.Test.YtdpokjhoedhadaaDoorFrame
import Derived.Test.YtdpokjhoedhadaaDoorKeepCurve
import Derived.Test.YtdpokjhoedhadaaDoorFaceLow
import Derived.Test.YtdpokjhoedhadaaDoorDoor2
import Derived.Test.YtdpokjhoedhadaaDoorCards
import Derived.Test.YtdpokjhoedhadaaDoorTie
import Derived.SevenTiedAt
import Derived.Laws.Strings3
namespace Go.Proofs.YtdpokjhoedhadaaDoor.curveClamped
open Go.ChangeShapes Go.WideShapes Go.ChangeAt Go.RowKit
open Go.ChangeMaps (open_string shut_string)
open num crv edw

theorem least_any (a : ByteArray) (ha : a.size = 32) (w : World) :
    Calls Tryd.prog 17 #[.string a] w fun e w' => e = .returned (.string (text (N a))) ∧ Below w.heap.size w w' := by
  have h1 := low_good a ha w
  generalize text (N a) = t at *
  clear ha
  go_enter Tryd.func17, Tryd.ntmps17
  go_wp2_with (go_at_call 30; refine h1.mono ?_; rintro e w2 ⟨rfl, hb2⟩)
  go_ret
  exact ⟨rfl, hb2⟩
theorem xor128 (x : Int) (h0 : 0 ≤ x) (h1 : x ≤ 255) : bits .xor .u8 x 128 = (x + 128) % 256 := by
  have h : ∀ n : Fin 256, bits .xor .u8 ((n.val : Nat) : Int) 128 = (((n.val : Nat) : Int) + 128) % 256 := by decide +kernel
  have := h ⟨x.toNat, by omega⟩
  rw [show (((⟨x.toNat, by omega⟩ : Fin 256).val : Nat) : Int) = x from by show ((x.toNat : Nat) : Int) = x; omega] at this
  exact this
/-- A text with another last byte. -/
def lastB (u : ByteArray) (x : Int) : ByteArray := u.extract 0 31 ++ ⟨#[UInt8.ofNat x.toNat]⟩
theorem lastB_list (u : ByteArray) (x : Int) : (lastB u x).data.toList = u.data.toList.take 31 ++ [UInt8.ofNat x.toNat] := by
  unfold lastB
  simp
theorem ba_ext {a b : ByteArray} (h : a.data.toList = b.data.toList) : a = b := by
  cases a; cases b; congr; exact Array.ext' h
theorem lastB_below (u : ByteArray) (h : u.size = 32) : lastB u (PlainAid.bt u 31 % 128) = belowC u := by
  refine ba_ext ?_
  rw [lastB_list]
  show _ = u.data.toList.set 31 _
  rw [last_split _ h]
theorem lastB_size (u : ByteArray) (h : u.size = 32) (x : Int) : (lastB u x).size = 32 := by
  have : (lastB u x).data.toList.length = 32 := by
    rw [lastB_list, List.length_append, List.length_take]
    have hl : u.data.toList.length = 32 := h
    simp; omega
  exact this
theorem below_lastB (u : ByteArray) (h : u.size = 32) : belowC (lastB u ((PlainAid.bt u 31 + 128) % 256)) = belowC u := by
  have hl : u.data.toList.length = 32 := h
  have hk : (u.data.toList.take 31).length = 31 := by rw [List.length_take]; omega
  have h0 := PlainAid.bt_nonneg u 31
  have h1 := PlainAid.bt_le u 31
  have hz := lastB_size u h ((PlainAid.bt u 31 + 128) % 256)
  have hb : PlainAid.bt (lastB u ((PlainAid.bt u 31 + 128) % 256)) 31 = (PlainAid.bt u 31 + 128) % 256 := by
    have e : lastB u ((PlainAid.bt u 31 + 128) % 256) = ⟨(u.data.toList.take 31 ++ [UInt8.ofNat ((PlainAid.bt u 31 + 128) % 256).toNat]).toArray⟩ := ba_ext (by rw [lastB_list])
    rw [e, bt_mk _ 31 (by rw [List.length_append, hk]; simp), List.getElem_append_right (by omega)]
    simp only [hk]
    exact byte_int _ (by omega) (by omega)
  refine ba_ext ?_
  show (lastB u ((PlainAid.bt u 31 + 128) % 256)).data.toList.set 31 _ = u.data.toList.set 31 _
  rw [last_split _ (show (lastB u ((PlainAid.bt u 31 + 128) % 256)).data.toList.length = 32 from hz), last_split _ hl, hb, lastB_list, List.take_append_of_le_length (by omega), List.take_of_length_le (by omega), show (PlainAid.bt u 31 + 128) % 256 % 128 = PlainAid.bt u 31 % 128 from by omega]
theorem conv1 (x : Int) (h0 : 0 ≤ x) (h1 : x < 256) (v : World) : (convert 30 9 (.slice (some ⟨v.heap.size, 0, none⟩) 1 1)).run Tryd.prog (v.alloc (.cells #[.int .u8 x] 5)) = .ok (.string ⟨#[UInt8.ofNat x.toNat]⟩) (v.alloc (.cells #[.int .u8 x] 5)) := by
  have hB : Byt (v.alloc (.cells #[.int .u8 x] 5)) v.heap.size [UInt8.ofNat x.toNat] := fun j hj => by
    obtain rfl : j = 0 := by simpa using hj
    refine ⟨?_, ?_⟩
    · rw [World.cell?_alloc_mark]
      simp only [List.getElem_cons_zero]
      rw [byte_int x h0 h1]
      rfl
    · rw [World.frozen?_alloc_mark]; rfl
  exact hB.conv rfl Tryd.underlying30 Tryd.underlying5 Tryd.underlying9
theorem facts (k u : ByteArray) (hk : k.size = 32) (hu : u.size = 32) (w : World) (hT : Tabs w) : ∃ c X L : ByteArray,
    (∀ W, Below w.heap.size w W → Calls Tryd.prog 16 #[.string k] W fun e w' => e = .returned (.tuple #[.string c, .int .i64 0]) ∧ Below w.heap.size w w') ∧
    (∀ W, Below w.heap.size w W → Calls Tryd.prog 16 #[.string c] W fun e w' => e = .returned (.tuple #[.string c, .int .i64 0]) ∧ Below w.heap.size w w') ∧
    (∀ W, Below w.heap.size w W → Calls Tryd.prog 8 #[.string k, .string u] W fun e w' => e = .returned (.tuple #[.string X, .int .i64 0]) ∧ Below w.heap.size w w') ∧
    (∀ W, Below w.heap.size w W → Calls Tryd.prog 8 #[.string c, .string u] W fun e w' => e = .returned (.tuple #[.string X, .int .i64 0]) ∧ Below w.heap.size w w') ∧
    (∀ W, Below w.heap.size w W → Calls Tryd.prog 8 #[.string k, .string (lastB u ((PlainAid.bt u 31 + 128) % 256))] W fun e w' => e = .returned (.tuple #[.string X, .int .i64 0]) ∧ Below w.heap.size w w') ∧
    (∀ W, Below w.heap.size w W → Calls Tryd.prog 17 #[.string (lastB u (PlainAid.bt u 31 % 128))] W fun e w' => e = .returned (.string L) ∧ Below w.heap.size w w') ∧
    (∀ W, Below w.heap.size w W → Calls Tryd.prog 8 #[.string k, .string L] W fun e w' => e = .returned (.tuple #[.string X, .int .i64 0]) ∧ Below w.heap.size w w') := by
  have hc := clampC_size k hk
  refine ⟨clampC k, xt k u, text (N (belowC u)), fun W h => clamp_keep h k hk, fun W h => ?_, fun W h => mult_keep h hT k u hk hu, fun W h => ?_, fun W h => ?_, fun W h => ?_, fun W h => ?_⟩
  · have := clamp_keep h (clampC k) hc
    rw [clamp_twice k hk] at this
    exact this
  · have := mult_keep h hT (clampC k) u hc hu
    rw [show xt (clampC k) u = xt k u from by unfold xt xk; rw [clamp_twice k hk]] at this
    exact this
  · have := mult_keep h hT k (lastB u ((PlainAid.bt u 31 + 128) % 256)) hk (lastB_size u hu _)
    rw [show xt k (lastB u ((PlainAid.bt u 31 + 128) % 256)) = xt k u from by unfold xt xk; rw [below_lastB u hu]] at this
    exact this
  · rw [lastB_below u hu]
    exact keep h (least_any _ (belowC_size u hu) W)
  · have := mult_keep h hT k (text (N (belowC u))) hk (text_size _)
    rw [show xt k (text (N (belowC u))) = xt k u from by unfold xt xk; rw [text_kt, below_kt]] at this
    exact this
set_option maxHeartbeats 1600000 in
theorem walk (s : ByteArray) (hs : s.size ≤ maxLen) (t : ByteArray) (ht : t.size ≤ maxLen) (w : World) (hT : Tabs w) :
    Calls Tryd.prog 7 #[.string s, .string t] w fun e w' => e = .returned (.bool true) ∧ Below w.heap.size w w' := by
  have hz := sz_size t 32
  obtain ⟨c, X, L, f1, f2, f3, f4, f5, f6, f7⟩ := facts (sz s 32) (sz t 32) (sz_size s 32) hz w hT
  have H : Hid (s.size ≤ maxLen ∧ t.size ≤ maxLen) := ⟨hs, ht⟩
  have HT : Hid (Tabs w) := hT
  clear hs ht hT
  have F1 : Hid _ := f1
  have F2 : Hid _ := f2
  have F3 : Hid _ := f3
  have F4 : Hid _ := f4
  have F5 : Hid _ := f5
  have F6 : Hid _ := f6
  have F7 : Hid _ := f7
  clear f1 f2 f3 f4 f5 f6 f7
  go_enter Tryd.func7, Tryd.ntmps7
  go_wp2_with fail
  refine (sized_any s 32 H.out.1 (by decide) _).mono ?_
  rintro e w1 ⟨rfl, hb1⟩
  go_wp2_with fail
  refine (sized_keep hb1 t H.out.2).mono ?_
  rintro e w2 ⟨rfl, hb2⟩
  generalize sz s 32 = k at *
  generalize sz t 32 = u at *
  clear hb1
  go_wp2_with fail
  refine (F1.out _ (by assumption)).mono ?_
  rintro e wn ⟨rfl, hbn⟩
  go_wp2_with fail
  refine (F2.out _ (by assumption)).mono ?_
  rintro e wn ⟨rfl, hbn⟩
  go_wp2_with fail
  refine (F3.out _ (by assumption)).mono ?_
  rintro e wn ⟨rfl, hbn⟩
  go_wp2_with fail
  refine (F4.out _ (by assumption)).mono ?_
  rintro e wn ⟨rfl, hbn⟩
  go_wp2_with fail
  refine (fact_keep (by assumption) HT).mono ?_
  rintro e w8 ⟨rfl, hb8⟩
  go_wp2_with fail
  have b0 := PlainAid.bt_nonneg u 31
  have b1 := PlainAid.bt_le u 31
  have m1 := xor128 _ b0 b1
  have m2 := and127 _ b0 b1
  have hsl : ∀ v : World, (Instr.slice 9 (.string u) none (some (.int .i64 31)) none).run Tryd.prog v = .ok (.string (u.extract 0 31)) v := fun v => by
    have hh := run_slice_string_to_if (P := Tryd.prog) v 9 u .i64 31 Tryd.underlying9
    rw [if_pos (by omega)] at hh
    exact hh
  have HV2 : Hid _ := conv1 (PlainAid.bt u 31 % 128) (by omega) (by omega)
  have hcv1 : (convert 30 9 (.slice (some ⟨w8.heap.size, 0, none⟩) 1 1)).run Tryd.prog (w8.drew.alloc (.cells #[.int .u8 ((PlainAid.bt u 31 + 128) % 256)] 5)) = .ok (.string ⟨#[UInt8.ofNat ((PlainAid.bt u 31 + 128) % 256).toNat]⟩) (w8.drew.alloc (.cells #[.int .u8 ((PlainAid.bt u 31 + 128) % 256)] 5)) := conv1 ((PlainAid.bt u 31 + 128) % 256) (by omega) (by omega) w8.drew
  have hcv3 : (convert 30 9 (.slice (some ⟨w8.heap.size, 0, none⟩) 1 1)).run Tryd.prog (w8.alloc (.cells #[.int .u8 ((PlainAid.bt u 31 + 128) % 256)] 5)).drew = .ok (.string ⟨#[UInt8.ofNat ((PlainAid.bt u 31 + 128) % 256).toNat]⟩) (w8.alloc (.cells #[.int .u8 ((PlainAid.bt u 31 + 128) % 256)] 5)).drew := conv1 ((PlainAid.bt u 31 + 128) % 256) (by omega) (by omega) w8.drew
  have hgb := PlainAid.get_bt u
  have i31 : 31 < u.size := by omega
  have j31 : (31 : Int) < (u.size : Int) := by omega
  have hU : (u.extract 0 31).size = 31 := by rw [ByteArray.size_extract]; omega
  unfold lastB at F5 F6
  have y1 : (⟨#[UInt8.ofNat ((PlainAid.bt u 31 + 128) % 256).toNat]⟩ : ByteArray).size = 1 := rfl
  have y2 : (⟨#[UInt8.ofNat (PlainAid.bt u 31 % 128).toNat]⟩ : ByteArray).size = 1 := rfl
  generalize u.extract 0 31 = U at *
  generalize (⟨#[UInt8.ofNat ((PlainAid.bt u 31 + 128) % 256).toNat]⟩ : ByteArray) = C1 at *
  generalize (⟨#[UInt8.ofNat (PlainAid.bt u 31 % 128).toNat]⟩ : ByteArray) = C2 at *
  generalize (PlainAid.bt u 31 + 128) % 256 = x1 at *
  generalize PlainAid.bt u 31 % 128 = x2 at *
  clear b0 b1
  go_region_with (go_at_call 8; refine (F5.out _ (by first | exact hb8.drew.alloc hb8.size _ | exact (hb8.alloc hb8.size _).drew | exact hb8.alloc hb8.size _)).mono ?_; rintro e w9 ⟨rfl, hb9⟩)
  clear hcv1 hcv3
  go_wp2_with fail
  have hcv2 : (convert 30 9 (.slice (some ⟨w9.heap.size, 0, none⟩) 1 1)).run Tryd.prog (w9.drew.alloc (.cells #[.int .u8 x2] 5)) = .ok (.string C2) (w9.drew.alloc (.cells #[.int .u8 x2] 5)) := HV2.out w9.drew
  have hcv4 : (convert 30 9 (.slice (some ⟨w9.heap.size, 0, none⟩) 1 1)).run Tryd.prog (w9.alloc (.cells #[.int .u8 x2] 5)).drew = .ok (.string C2) (w9.alloc (.cells #[.int .u8 x2] 5)).drew := HV2.out w9.drew
  go_region_with (first
    | (go_at_call 17; refine (F6.out _ (by first | exact hb9.drew.alloc hb9.size _ | exact (hb9.alloc hb9.size _).drew | exact hb9.alloc hb9.size _)).mono ?_; rintro e w10 ⟨rfl, hb10⟩)
    | (go_at_call 8; refine (F7.out _ (by assumption)).mono ?_; rintro e w11 ⟨rfl, hb11⟩))
  go_wp2_with fail
  go_ret
  exact ⟨rfl, by assumption⟩

/-! ### The row's step -/
set_option maxRecDepth 100000 in
theorem lifted (os : Os) (started : os.Started) (H : Type) (enc : TypeId × Value → H) :
    ReturnsInHanded {} Tryd.checked os 7 .any (fun w args => (Rows.curveClampedSpec.pre enc Tryd.prog Tryd.f7 [] false w args ∧ laidMetH Tryd.prog laid2 w) ∧ sizedMet enc Tryd.prog Tryd.f7 (OpenSpec.ofChange Rows.curveClampedSpec) false w args)
      (Rows.curveClampedSpec.post enc Tryd.prog Tryd.f7 false true false false) := by
  refine returnsInHanded_of_change_and (C := Tryd.checked) (X := fun w _ => laidMetH Tryd.prog laid2 w) (fun _ _ _ hh h => h.of_heap hh) own started (by kernel_rfl) Tryd.func7
    (ChangeSpec.witness_shaped (enc := enc) (C := Tryd.checked) (os := os) (X := fun w _ => laidMetH Tryd.prog laid2 w) false (World.doorLaid Tryd.prog 400 os) #[.string .empty, .string .empty] 8 rfl (World.shaped_of_RefB (by kernel_rfl) (by kernel_rfl)) (by kernel_rfl) (by kernel_rfl) (by kernel_rfl) (both_met os _)) ?_
  intro W base args ds gs before hval0 hW _ _ hL _
  have hval : ∀ (j : Nat) t v, Tryd.f7.params[j]? = some t → args[j]? = some v → Value.okWide Tryd.prog W .any base t v := hval0
  have hW' := hW
  obtain ⟨p, q, hA0, hV, rfl, hfz, hnd⟩ := hW
  have hA : DataW.TrodAll enc Tryd.prog W 0 (fun _ => true) true Tryd.f7.params.toList args.toList ds p := hA0
  rw [Tryd.params7] at hA hval
  obtain ⟨v0, vs0, d0, ds0, p0, q0, hargs, rfl, rfl, h0, r0⟩ := trodAll_cons hA
  obtain ⟨v1, vs1, d1, ds1, p1, q1, rfl, rfl, rfl, h1, r1⟩ := trodAll_cons r0
  obtain ⟨rfl, rfl, rfl⟩ := trodAll_nil r1
  obtain rfl : args = #[v0, v1] := by cases args; simp_all
  obtain ⟨rfl, rfl⟩ := trodVars_none hV
  obtain ⟨s0, rfl, rfl, rfl, m0⟩ := open_string Tryd.underlying9 (hval 0 9 v0 rfl rfl) h0
  obtain ⟨s1, rfl, rfl, rfl, m1⟩ := open_string Tryd.underlying9 (hval 1 9 v1 rfl rfl) h1
  clear hA0 hval0
  simp only [List.append_nil] at hW'
  refine (walk s0 m0 s1 m1 W (both_tabs hL)).mono fun e W' ⟨he, hg⟩ => ?_
  subst he
  exact ⟨_, rfl, _, _, _, [], [], [], hW', trodAll_cons_mk (shut_bool Tryd.underlying4 _) trodAll_mk0, (trodAll_cons_mk (shut_string Tryd.underlying9 m0) (trodAll_cons_mk (shut_string Tryd.underlying9 m1) trodAll_mk0)), rfl, hg.frame _, fun h => by cases h⟩

/-- THE ROW. -/
theorem row : Rows.CurveClampedSaid :=
  OpenClaim.holds_of_wide 7 Tryd.f7 rfl rfl rfl rfl rfl rfl rfl ⟨rfl, rfl, rfl, rfl, rfl⟩ rfl rfl rfl rfl rfl (by kernel_rfl) Tryd.func7 (by kernel_rfl)
    (of_decide_eq_true (by kernel_rfl)) (by unfold Func.isWrapper; first | (rw [if_pos (by decide +kernel)]; kernel_rfl) | (rw [if_neg (by decide +kernel)]; exact ⟨rfl, rfl⟩))
    (fun os started H enc _ => lifted os started H enc)

/-- THE STATEMENT: the tied card. -/
theorem proved : Rows.CurveClampedCardSaid :=
  Claim7.holds_tied_plain_at .later [] [.data, .data] true (true, "60c4c9fdc2b3e4dec2a61077bcaa6191230837d56e555b0c45ad2dfbb02a1b72") false
    row (fun _ h => by cases h) (by kernel_rfl) (fun _ h => by cases h) curveClamped_row_tie rfl ⟨rfl, rfl⟩ (by kernel_rfl) rfl
    (fun f fn hf hfn => by
      obtain rfl : f = 7 := Option.some.inj ((show Tryd.prog.funcNamed "souterrain/souterrainkeep.CurveClamped" = some 7 by kernel_rfl).symm.trans hf) |>.symm
      obtain rfl : fn = Tryd.f7 := (Option.some.inj (Tryd.func7.symm.trans hfn)).symm
      exact ⟨by kernel_rfl, fun j t ht => by
        rw [Tryd.params7] at ht
        have hm : t ∈ [9] := by simpa using Array.mem_of_getElem? ht
        have hall : ([9].all fun u => !Tryd.prog.wantsStandIn u) = true := by kernel_rfl
        exact (show Tryd.prog.wantsStandIn t = false by simpa using List.all_eq_true.1 hall t hm)⟩)
    (by kernel_rfl)
end Go.Proofs.YtdpokjhoedhadaaDoor.curveClamped
