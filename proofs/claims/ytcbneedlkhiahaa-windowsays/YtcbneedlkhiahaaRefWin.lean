/-
  THE DOCUMENT's WINDOW: a list of all that was taken: outside, Has, Next, Check, Take.
-/
import Derived.Test.YtcbneedlkhiahaaPlainWindow
import Derived.Test.YtcbneedlkhiahaaInts
import Derived.Test.YtcbneedlkhiahaaBlk
import Derived.Test.YtcbneedlkhiahaaBut
import Derived.Deep.AppendLies
import Derived.Deep.RegionWith
namespace Go.Proofs.Ytcbneedlkhiahaa.rwin
open Go.RowKit
open win

def out (n lo hi : Int) : Bool := decide (n < lo ∨ hi < n)
theorem outside_any (n lo hi : Int) (w : World) :
    Calls Try.prog 17 #[.int .i64 n, .int .i64 lo, .int .i64 hi] w fun e w' => e = .returned (.bool (out n lo hi)) ∧ w' = w := by
  by_cases c : n < lo
  · have d0 : decide (n < lo) = true := decide_eq_true c
    rw [show out n lo hi = true from decide_eq_true (.inl c)]
    go_enter Try.func17, Try.ntmps17
    go_wp2
    go_ret
    exact ⟨rfl, rfl⟩
  · have d0 : decide (n < lo) = false := decide_eq_false c
    rw [show out n lo hi = decide (n > hi) from decide_eq_decide.2 (by omega)]
    go_enter Try.func17, Try.ntmps17
    go_wp2
    go_ret
    exact ⟨rfl, rfl⟩
theorem not_mem_take {zs : List Int} {x : Int} {k : Nat} (h : x ∉ zs.take k) (hk : k < zs.length) (hne : zs[k] ≠ x) : x ∉ zs.take (k + 1) := by
  rw [take_snoc hk]
  intro hm
  rcases List.mem_append.1 hm with hm | hm
  · exact h hm
  · exact hne (List.mem_singleton.1 hm).symm
set_option maxHeartbeats 800000 in
theorem has_any {B : Nat} (a : Option Addr) (n c : Nat) (zs : List Int) (x : Int) (hn : n < 140737488355328) (w : World) (h : Ints w B a n zs) :
    Calls Try.prog 18 #[.slice a n c, .int .i64 x] w fun e w' => e = .returned (.bool (decide (x ∈ zs))) ∧ w' = w := by
  have hl := h.len
  go_enter Try.func18, Try.ntmps18
  go_wp2
  go_loop [9] (fun i => ∃ k : Nat, k ≤ n ∧ i = .int .i64 k ∧ x ∉ zs.take k) (fun i => n - (intOf i).toNat)
  case atStart => exact ⟨0, Nat.zero_le _, rfl, by simp⟩
  case round =>
    obtain ⟨k, hk, rfl, hx⟩ := hrel
    by_cases hlt : k < n
    · obtain ⟨b, off, hix, hbB, hc⟩ := h.at c k hlt (by omega)
      by_cases e : zs[k]'(by omega) = x
      · have HM : Hid (decide (x ∈ zs) = true) := decide_eq_true (by rw [← e]; exact List.getElem_mem _)
        rw [e] at hc
        clear hx h hl e
        go_wp2
        go_ret
        exact ⟨by rw [HM.out]; rfl, rfl⟩
      · have hx' := not_mem_take hx (by omega) e
        have HX : Hid (x ∉ zs.take (k + 1)) := hx'
        have e1 : (x == zs[k]'(by omega)) = false := by rw [beq_eq_false_iff_ne]; exact fun h => e h.symm
        have e2 : (zs[k]'(by omega) == x) = false := by rw [beq_eq_false_iff_ne]; exact e
        generalize zs[k]'(by omega) = y at *
        clear hx hx' h hl e
        go_wp2
        go_round
        case rel => exact ⟨k + 1, by omega, by go_num, HX.out⟩
        case measure => simp [intOf]; omega
    · obtain rfl : k = n := by omega
      rw [List.take_of_length_le (by omega)] at hx
      have HM : Hid (decide (x ∈ zs) = false) := decide_eq_false hx
      clear hx h
      go_wp2
      go_ret
      exact ⟨by rw [HM.out]; rfl, rfl⟩

/-- Block b is the document's window, in which all of L was taken; what it keeps lies from block C on. -/
structure RW (w : World) (b C : Nat) (L : List Int) : Prop where
  blk : ∃ a cap, Blk w b 27 [.slice a L.length cap] ∧ w.ownsRow C 3 1 (.slice a L.length cap) L.length (L.map (Value.int .i64))
  lt : b < C
theorem RW.at {w : World} {b C : Nat} {L : List Int} (h : RW w b C L) : b < w.heap.size := by
  obtain ⟨a, cap, hB, _⟩ := h.blk
  exact hB.lt
theorem RW.but {w w' : World} {b C c : Nat} {L : List Int} (h : RW w b C L) (hg : w.grownBy w' (some c)) (hb : b ≠ c) (hc : c < C) : RW w' b C L := by
  obtain ⟨a, cap, hB, ho⟩ := h.blk
  refine ⟨⟨a, cap, hB.but hg (fun e => hb (by cases e; rfl)), ho.kept hg ?_⟩, h.lt⟩
  cases e : (Value.slice a L.length cap).ownBlock with
  | none => exact .inl rfl
  | some j =>
    right
    intro e2
    have := (ho.lt j e).1
    cases e2
    omega
theorem max_le (L : List Int) : ∀ (c : Int), -1 ≤ c → c ≤ 1099511627776 → (∀ x ∈ L, x ≤ 1099511627776) → -1 ≤ L.foldl max c ∧ L.foldl max c ≤ 1099511627776 := by
  induction L with
  | nil => intro c h1 h2 _; exact ⟨h1, h2⟩
  | cons x L ih =>
    intro c h1 h2 h
    have := h x List.mem_cons_self
    exact ih (max c x) (by omega) (by omega) (fun y hy => h y (List.mem_cons_of_mem _ hy))
set_option maxHeartbeats 800000 in
theorem next_any (b C : Nat) (L : List Int) (hL : ∀ x ∈ L, 0 ≤ x ∧ x ≤ 1099511627776) (hn : L.length < 140737488355328) (w : World) (h : RW w b C L) :
    Calls Try.prog 13 #[.pointer (some ⟨b, 0, none⟩)] w fun e w' => e = .returned (.int .i64 (nx L)) ∧ w' = w := by
  obtain ⟨a, cap, hB, ho⟩ := h.blk
  have c0 := hB.cell 0 _ rfl
  have hi := Ints.own ho
  have HL : Hid (∀ x ∈ L, 0 ≤ x ∧ x ≤ 1099511627776) := hL
  obtain ⟨n, hnd⟩ : ∃ n, L.length = n := ⟨_, rfl⟩
  rw [hnd] at c0 hi hn
  clear hB ho h hL
  go_enter Try.func13, Try.ntmps13
  go_wp2
  go_loop [3, 11] (fun u i => ∃ k : Nat, k ≤ n ∧ i = .int .i64 k ∧ u = .int .i64 ((L.take k).foldl max (-1))) (fun _ i => n - (intOf i).toNat)
  case atStart => exact ⟨0, Nat.zero_le _, rfl, rfl⟩
  case round =>
    obtain ⟨k, hk, rfl, rfl⟩ := hrel
    have hm := max_le (L.take k) (-1) (by decide) (by decide) (fun x hx => (HL.out x (List.mem_of_mem_take hx)).2)
    by_cases hlt : k < n
    · obtain ⟨q, off, hix, hbB, hc⟩ := hi.at cap k hlt (by omega)
      have hx := HL.out (L[k]'(by omega)) (List.getElem_mem _)
      have HX : Hid ((L.take (k + 1)).foldl max (-1) = max ((L.take k).foldl max (-1)) (L[k]'(by omega))) := by
        show _ = _
        rw [take_snoc (by omega), List.foldl_append]
        rfl
      generalize L[k]'(by omega) = x at *
      generalize (L.take k).foldl max (-1) = m at *
      clear hi hnd
      go_wp2
      go_round
      case rel => exact ⟨k + 1, by omega, by go_num, by rw [HX.out]; congr 1; split <;> omega⟩
      case measure => simp [intOf]; omega
    · obtain rfl : k = n := by omega
      have HM : Hid ((L.take k).foldl max (-1) + 1 = nx L) := by
        show _ = _
        rw [List.take_of_length_le (by omega)]
        rfl
      generalize (L.take k).foldl max (-1) = m at *
      clear hi hnd
      go_wp2
      go_ret
      exact ⟨by rw [← HM.out]; rfl, rfl⟩
theorem nx_bd {L : List Int} (hL : ∀ x ∈ L, 0 ≤ x ∧ x ≤ 1099511627776) : 0 ≤ nx L ∧ nx L ≤ 1099511627777 := by
  have := max_le L (-1) (by decide) (by decide) (fun x hx => (hL x hx).2)
  unfold nx
  omega
set_option maxHeartbeats 800000 in
theorem check_any (b C : Nat) (L : List Int) (hL : ∀ x ∈ L, 0 ≤ x ∧ x ≤ 1099511627776) (hn : L.length < 140737488355328) (n : Int) (w : World) (h : RW w b C L) :
    Calls Try.prog 9 #[.pointer (some ⟨b, 0, none⟩), .int .i64 n] w fun e w' => e = .returned (.int .i64 (rchk L n)) ∧ w' = w := by
  have f1 := outside_any n 0 1099511627776
  by_cases ho : n < 0 ∨ 1099511627776 < n
  · rw [show out n 0 1099511627776 = true from decide_eq_true ho] at f1
    rw [show rchk L n = 1 from by unfold rchk; rw [if_pos ho]]
    clear ho h hL hn
    go_enter Try.func9, Try.ntmps9
    go_wp2_with (go_at_call 17; (with_reducible refine (f1 _).mono ?_); rintro e w3 ⟨rfl, hq⟩; have hq := hq.symm; subst hq)
    go_ret
    exact ⟨rfl, rfl⟩
  · rw [show out n 0 1099511627776 = false from decide_eq_false ho] at f1
    obtain ⟨a, cap, hB, hown⟩ := h.blk
    have c0 := hB.cell 0 _ rfl
    have hi := Ints.own hown
    have f2 := has_any (B := w.heap.size) a L.length cap L n hn
    have f3 := next_any b C L hL hn
    have hx := nx_bd hL
    by_cases hm : n ∈ L
    · rw [decide_eq_true hm] at f2
      rw [show rchk L n = 11 from by unfold rchk; rw [if_neg ho, if_pos (.inl hm)]]
      clear hm hL
      generalize L.length = z at *
      go_enter Try.func9, Try.ntmps9
      go_wp2_with (first
        | (go_at_call 17; (with_reducible refine (f1 _).mono ?_); rintro e w3 ⟨rfl, hq⟩; have hq := hq.symm; subst hq)
        | (go_at_call 18; (with_reducible refine (f2 _ (by assumption)).mono ?_); rintro e w3 ⟨rfl, hq⟩; have hq := hq.symm; subst hq))
      go_ret
      exact ⟨rfl, rfl⟩
    · rw [decide_eq_false hm] at f2
      have hn1 : 0 ≤ n := by omega
      have hn2 : n ≤ 1099511627776 := by omega
      obtain ⟨y, hy⟩ : ∃ y, n + 64 = y := ⟨_, rfl⟩
      by_cases hlt : n + 64 < nx L
      · rw [show rchk L n = 11 from by unfold rchk; rw [if_neg ho, if_pos (.inr hlt)]]
        rw [hy] at hlt
        have d1 : decide (y < nx L) = true := decide_eq_true hlt
        generalize nx L = Nx at *
        clear hm hL ho
        generalize L.length = z at *
        go_enter Try.func9, Try.ntmps9
        go_wp2_with (first
          | (go_at_call 17; (with_reducible refine (f1 _).mono ?_); rintro e w3 ⟨rfl, hq⟩; have hq := hq.symm; subst hq)
          | (go_at_call 18; (with_reducible refine (f2 _ (by assumption)).mono ?_); rintro e w3 ⟨rfl, hq⟩; have hq := hq.symm; subst hq)
          | (go_at_call 13; (with_reducible refine (f3 _ (by assumption)).mono ?_); rintro e w3 ⟨rfl, hq⟩; have hq := hq.symm; subst hq))
        go_ret
        exact ⟨rfl, rfl⟩
      · rw [show rchk L n = 0 from by unfold rchk; rw [if_neg ho, if_neg (fun h => h.elim hm hlt)]]
        rw [hy] at hlt
        have d1 : decide (y < nx L) = false := decide_eq_false hlt
        generalize nx L = Nx at *
        clear hm hL ho
        generalize L.length = z at *
        go_enter Try.func9, Try.ntmps9
        go_wp2_with (first
          | (go_at_call 17; (with_reducible refine (f1 _).mono ?_); rintro e w3 ⟨rfl, hq⟩; have hq := hq.symm; subst hq)
          | (go_at_call 18; (with_reducible refine (f2 _ (by assumption)).mono ?_); rintro e w3 ⟨rfl, hq⟩; have hq := hq.symm; subst hq)
          | (go_at_call 13; (with_reducible refine (f3 _ (by assumption)).mono ?_); rintro e w3 ⟨rfl, hq⟩; have hq := hq.symm; subst hq))
        go_ret
        exact ⟨rfl, rfl⟩
set_option maxHeartbeats 800000 in
theorem take_any (b C : Nat) (L : List Int) (hL : ∀ x ∈ L, 0 ≤ x ∧ x ≤ 1099511627776) (hn : L.length < 17592186044416) (n : Int) (w : World) (h : RW w b C L) (hC : C ≤ w.heap.size) :
    Calls Try.prog 11 #[.pointer (some ⟨b, 0, none⟩), .int .i64 n] w fun e w' => e = .returned (.int .i64 (rchk L n)) ∧ RW w' b C (rL L n) ∧ Below b w w' := by
  have f1 := check_any b C L hL (by omega) n
  by_cases h0 : rchk L n = 0
  · obtain ⟨a, cap, hB, hown⟩ := h.blk
    have c0 := hB.cell 0 _ rfl
    obtain ⟨i0, hi, hz0, hz1, hz2⟩ := info_parts infoINT
    have hlt := h.lt
    have HR : Hid (∀ j, (Value.slice a L.length cap).ownBlock = some j → C ≤ j) := fun j hj => (hown.lt j hj).1
    have HW : Hid (w.ownsRow C 3 1 (.slice a L.length cap) L.length (L.map (Value.int .i64))) := hown
    rw [h0] at f1 ⊢
    rw [rL_zero h0]
    have HB : Hid (Blk w b 27 [.slice a L.length cap]) := hB
    have HL : Hid ((L ++ [n]).length = L.length + 1) := by show _ = _; simp
    have HM : Hid ((L ++ [n]).map (Value.int .i64) = L.map (Value.int .i64) ++ [.int .i64 n]) := by show _ = _; simp
    obtain ⟨z, hz⟩ : ∃ z, L.length = z := ⟨_, rfl⟩
    rw [hz] at hn c0 HR HW HB HL
    clear hL h0 hown hB hz
    go_enter Try.func11, Try.ntmps11
    go_wp2_with (first
      | (go_at_call 9; (with_reducible refine (f1 _ (by assumption)).mono ?_); rintro e w3 ⟨rfl, hq⟩; have hq := hq.symm; subst hq)
      | (at_builtin; refine wpList_append_lies _ rfl _ _ 22 rfl C 3 i0 _ 1 8 Try.underlying22 hi hz0 hz1 hz2 rfl (by omega) _ z _ rfl (HW.out.alloc _) ⟨w.heap.size, 0, none⟩ 1 1 [.int .i64 n] rfl rfl (World.news_of_block (cs := #[.int .i64 n]) (t := 3) (fr := (0, 0)) (heap_alloc_new w _)) (by simp [Value.oneCell']) (by omega) (by unfold maxLen; omega) (by omega) (by simp; omega) (w.heap.size + 1) (by simp) ?_; intro gg cap1 w4 hown4 hgrow4 hat hltg
         have hB4 := (HB.out.alloc (.cells #[.int .i64 n] 3)).but hgrow4 (fun e => by have := HR.out b e.symm; omega)
         have c4 := hB4.cell 0 _ rfl
         have z4 := hB4.frozen 0))
    go_ret
    refine ⟨rfl, ⟨⟨some ⟨gg, 0, none⟩, cap1, ?_, ?_⟩, hlt⟩, ?_⟩
    · rw [HL.out]
      exact hB4.set 0 _
    · rw [HL.out, HM.out]
      refine hown4.kept (but_set (but_refl _ (some b)) 0 _) (.inr fun e => ?_)
      have h1 := (hown4.lt gg rfl).1
      have e2 : gg = b := by simpa [Value.ownBlock] using e
      omega
    · have hb : b ≤ w.heap.size := by omega
      exact (((Below.refl b w).alloc hb _).grown hgrow4 (by simp; omega) (fun j hj => by have := HR.out j hj; omega)).setCell (Nat.le_refl _) _
  · have tE : (rchk L n == 0) = false := by rw [beq_eq_false_iff_ne]; exact h0
    have tF : (rchk L n != 0) = true := by rw [bne_iff_ne]; exact h0
    have HL : Hid (rL L n = L) := rL_not h0
    generalize rchk L n = E at *
    clear h0 hL
    go_enter Try.func11, Try.ntmps11
    go_wp2_with (go_at_call 9; (with_reducible refine (f1 _ (by assumption)).mono ?_); rintro e w3 ⟨rfl, hq⟩; have hq := hq.symm; subst hq)
    go_ret
    exact ⟨rfl, by rw [HL.out]; exact h, Below.refl _ _⟩
end Go.Proofs.Ytcbneedlkhiahaa.rwin
