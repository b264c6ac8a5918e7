/-
  THE WALK OF the document's own AesOf.
-/
import Derived.Test.YtibdlccaenanmaaRefAesSubs
import Derived.Test.YtibdlccaenanmaaAesFace
import Derived.Deep.RegionLaw
import Derived.Test.YtibdlccaenanmaaTail
import Derived.Laws.DeepStrings4
namespace Go.Proofs.Ytibdlccaenanmaa.aes
open Go.RowKit
open Go.Proofs.Ytibdlccaenanmaa.gal

/-! ### Words of what a key is expanded to -/
theorem pre_get {l E : List Nat} (h : l <+: E) (k : Nat) (hk : k < l.length) : E.getD k 0 = l.getD k 0 := by
  obtain ⟨t, rfl⟩ := h
  rw [List.getD_eq_getElem?_getD, List.getElem?_append_left hk, ← List.getD_eq_getElem?_getD]
theorem expd_mono (n : Nat) (key : List Nat) (m : Nat) : ∀ d, expd n key m <+: expd n key (m + d)
  | 0 => List.prefix_refl _
  | d + 1 => (expd_mono n key m d).trans (List.prefix_append _ _)
theorem word_pre {l E : List Nat} (h : l <+: E) (j : Nat) (hj : 4 * j + 4 ≤ l.length) : word E j = word l j := mk_congr fun k hk => pre_get h _ (by omega)
theorem lastW_word (n i : Nat) (l E : List Nat) (h : word E (i - 1) = word l (i - 1)) : lastW n i E = lastW n i l := by unfold lastW; rw [h]
theorem exp_word (n : Nat) (key : List Nat) (hk : key.length = 4 * n) (hn : 1 ≤ n) (m M : Nat) (hm : m < M) : word (expd n key M) (n + m) = xorN 4 (word (expd n key M) m) (lastW n (n + m) (expd n key M)) := by
  have hl := expd_length n key hk m
  have hp : expd n key m <+: expd n key M := by have := expd_mono n key m (M - m); rwa [show m + (M - m) = M from by omega] at this
  have hp1 : expd n key (m + 1) <+: expd n key M := by have := expd_mono n key (m + 1) (M - (m + 1)); rwa [show m + 1 + (M - (m + 1)) = M from by omega] at this
  have hl1 := expd_length n key hk (m + 1)
  rw [word_pre hp1 (n + m) (by omega), word_pre hp m (by omega), lastW_word n (n + m) (expd n key m) (expd n key M) (word_pre hp _ (by omega))]
  refine ext_get (by rw [word_length, xorN, mk_length]) fun k hkk => ?_
  rw [word_length] at hkk
  rw [word, mk_get _ _ _ hkk, expd, List.getD_eq_getElem?_getD, List.getElem?_append_right (by omega), ← List.getD_eq_getElem?_getD]
  congr 1
  omega
theorem kE_word (k : ByteArray) (n : Nat) (hn : k.size = 4 * n) (hn1 : 1 ≤ n) (m : Nat) (hm : m < 4 * (n + 7) - n) : word (kE k) (n + m) = xorN 4 (word (kE k) m) (lastW n (n + m) (kE k)) := by
  unfold kE expand
  rw [show k.size / 4 = n from by omega]
  exact exp_word n (nb k) (by rw [nb_length, hn]) hn1 m _ hm
theorem kE_first (k : ByteArray) (n : Nat) (hn : k.size = 4 * n) (j : Nat) (hj : j < n) : tx (word (kE k) j) = k.extract (4 * j) (4 * j + 4) := by
  rw [word_pre (kE_pre k) j (by rw [nb_length]; omega)]
  have e : word (nb k) j = ((nb k).drop (4 * j)).take 4 := by
    have hl := nb_length k
    refine ext_get (by rw [word_length, List.length_take, List.length_drop]; omega) fun q hq => ?_
    rw [word_length] at hq
    rw [word, mk_get _ _ _ hq, List.getD_eq_getElem?_getD, List.getD_eq_getElem?_getD, List.getElem?_take, if_pos hq, List.getElem?_drop]
  rw [e]
  apply ByteArray.ext
  rw [ByteArray.data_extract]
  apply Array.ext'
  have e2 : (nb k).map UInt8.ofNat = k.data.toList := by
    have := congrArg (fun b : ByteArray => b.data.toList) (tx_nb k)
    simpa [tx] using this
  simp only [tx, List.map_take, List.map_drop, e2, Array.toList_extract]
  rw [List.extract_eq_take_drop, show 4 * j + 4 - 4 * j = 4 from by omega]
def wcells (E : List Nat) (i : Nat) : List Value := (List.range i).map fun j => Value.string (tx (word E j))
theorem wcells_succ (E : List Nat) (i : Nat) : wcells E (i + 1) = wcells E i ++ [.string (tx (word E i))] := by simp [wcells, List.range_succ]
theorem wcells_get (E : List Nat) (i j : Nat) (h : j < i) : (wcells E i)[j]? = some (.string (tx (word E j))) := by simp [wcells, h]
theorem infoST3 : (Try.prog.info? 9).map (fun i => (i.zero, i.size, i.bytes)) = some (some (.string .empty), 1, 16) := by kernel_rfl
theorem infoAES : (Try.prog.info? 56).map (·.size) = some 2 := by kernel_rfl
theorem own_below {w w' : World} {B base e s n : Nat} {v : Value} {xs : List Value} (h : w.ownsRow base e s v n xs) (hb : Below B w w') (hv : ∀ b, v.ownBlock = some b → b < B) : w'.ownsRow base e s v n xs := by
  refine ⟨h.1, ?_⟩
  rcases h.2 with hn | ⟨g, c, cur, rfl, h2, h3, h4⟩
  · exact .inl hn
  · exact .inr ⟨g, c, cur, rfl, h2, by rw [hb.block g (hv g rfl)]; exact h3, h4⟩
theorem own_other {w : World} {base e s n : Nat} {v : Value} {xs : List Value} (h : w.ownsRow base e s v n xs) {a : Addr} (ha : a.block < base) (u : Value) : (w.setCell a u).ownsRow base e s v n xs := by
  refine ⟨h.1, ?_⟩
  rcases h.2 with hn | ⟨g, c, cur, rfl, h2, h3, h4⟩
  · exact .inl hn
  · exact .inr ⟨g, c, cur, rfl, h2, by rw [Below.heap_setCell _ _ _ _ (by omega)]; exact h3, h4⟩
theorem own_cell {w : World} {base e n : Nat} {v : Value} {xs : List Value} (h : w.ownsRow base e 1 v n xs) (hn : 0 < n) : ∃ g cap, v = .slice (some ⟨g, 0, none⟩) n cap ∧ n ≤ cap ∧ base ≤ g ∧ g < w.heap.size ∧ ∀ j u, xs[j]? = some u → w.cell? ⟨g, j, none⟩ = some u := by
  obtain ⟨g, cap, rfl, h1, h2⟩ := h.form hn
  have hr := Row.own h
  exact ⟨g, cap, rfl, hr.le, h1, h2, fun j u hu => hr.get j u hu⟩
/-- A call, as one step of a region that draws its order. -/
theorem step_call {P : Program} {ops : Array Oper} {o : Oper} {a : Act} {w : World} {K : Act → World → Prop} {Q : Exit → Act → World → Prop} {E : Prop} (hgd : o.guard = none) {g : FuncId} {args : Array Value}
    (hrun : (execOp a.eval o).run P w = .ok (.enter g args) w) (h : Calls P g args w fun e w' => ∃ v, e = .returned v ∧ K (a.put o.dst v) w') : if Region.wanted o (yielded ops a.tmps) = true then Oper.wp P o a w K Q else E := by
  have hw : Region.wanted o (yielded ops a.tmps) = true := by simp [Region.wanted, hgd]
  rw [if_pos hw]
  unfold Oper.wp
  rw [hrun]
  refine h.mono ?_
  rintro e w' ⟨v, rfl, hk⟩
  exact hk
theorem results_blk_tmp {P : Program} {fn : Func} {p u : Tmp} {ty : TypeId} (hr : fn.results = #[.cell p ty, .tmp u]) (tmps : Array Value) {w : World} {b t : Nat} {l : List Value} {v : Value} (hp : tmps.getD p undef = .pointer (some ⟨b, 0, none⟩)) (hv : tmps.getD u undef = v) (hA : Blk w b t l)
    (d : TypeDesc) (hu : P.underlying ty = some d) (hd : d.isRow = true) (hi : (P.info? ty).map (·.size) = some l.length) :
    (results fn tmps).run P w = .ok (.tuple #[.agg l.toArray, v]) w := by
  have h := hA.loadVar (P := P) (ty := ty) d hu hd hi
  rw [results_cell_tmp hr, hp, hv]
  show Result.andThen ((Go.loadVar ty ⟨b, 0, none⟩).run P w) _ = _
  rw [h]
  rfl
theorem sl_text (s : ByteArray) (lo hi : Nat) (h0 : lo ≤ hi) (h1 : hi ≤ s.size) (u : World) : (Instr.slice 9 (.string s) (some (.int .i64 (lo : Int))) (some (.int .i64 (hi : Int))) none).run Try.prog u = .ok (.string (s.extract lo hi)) u := by
  have hh := run_slice_string_if (P := Try.prog) u 9 s .i64 .i64 (lo : Int) (hi : Int) Try.underlying9
  rw [if_pos (by omega), if_pos (by omega)] at hh
  exact hh
theorem aesOf_bad (key : ByteArray) (h : key.size ≠ 16) (h2 : key.size ≠ 32) (w : World) :
    Calls Try.prog 31 #[.string key] w fun e w' => e = .returned (.tuple #[.agg #[.slice none 0 0, .slice none 0 0], .bool false]) ∧ Below w.heap.size w w' := by
  have t1 : ((key.size : Int) != 16) = true := by rw [bne_iff_ne]; omega
  have t2 : ((key.size : Int) != 32) = true := by rw [bne_iff_ne]; omega
  clear h h2
  go_enter Try.func31, Try.ntmps31
  go_wp2
  exact bodyPost_ret (results_blk_tmp Try.results31 _ rfl rfl (Blk.new w 56 [.slice none 0 0, .slice none 0 0] _ rfl) _ Try.underlying56 rfl infoAES) rfl ⟨rfl, (Below.refl _ _).alloc (Nat.le_refl _) _⟩
theorem turn_text (A : List Nat) (hl : A.length = 4) : (tx A).extract 1 4 ++ (tx A).extract 0 1 = tx (turn A) := by
  match A, hl with
  | [a, b, c, d], _ => rfl
theorem last_0 (D : List Nat) (hl : D.length = 4) (p : Nat) : xorN 4 D ([p] ++ [0, 0, 0]) = D.set 0 (D.getD 0 0 ^^^ p) := by
  match D, hl with
  | [a, b, c, d], _ =>
    show [a ^^^ p, b ^^^ 0, c ^^^ 0, d ^^^ 0] = [a ^^^ p, b, c, d]
    simp
end Go.Proofs.Ytibdlccaenanmaa.aes
