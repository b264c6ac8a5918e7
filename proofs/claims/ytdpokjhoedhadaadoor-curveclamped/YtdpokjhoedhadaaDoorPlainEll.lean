/-
  PLAIN MATHEMATICS: 2^252 + 27742317777372353535851937790883648493 is a prime. No program is named here.
-/
import Derived.Test.YtdpokjhoedhadaaDoorPlainField
namespace Go.Proofs.YtdpokjhoedhadaaDoor.num

theorem lsmalls : ∀ q ∈ [2, 3, 5, 7, 11, 23, 41, 43, 73, 269, 307, 1361, 2851, 5879, 30703, 82163, 132667, 137849, 531581, 1224481, 14741173], Pr q := by
  have h : ([2, 3, 5, 7, 11, 23, 41, 43, 73, 269, 307, 1361, 2851, 5879, 30703, 82163, 132667, 137849, 531581, 1224481, 14741173] : List Nat).all (fun q => decide (1 < q) && tried 4000 2 q) = true := by decide +kernel
  intro q hq
  have h1 := List.all_eq_true.1 h q hq
  rw [Bool.and_eq_true, decide_eq_true_eq] at h1
  exact pr_tried 4000 q h1.1 h1.2
theorem l0 : Cert 58964693 2 [2, 2, 14741173] := cert_of 26 _ _ _ (by decide +kernel) (by
  intro q hq
  simp only [List.mem_cons, List.not_mem_nil, or_false] at hq
  rcases hq with rfl | rfl | rfl
  · exact lsmalls _ (by decide)
  · exact lsmalls _ (by decide)
  · exact lsmalls _ (by decide))
theorem l1 : Cert 3044861653679985063343 5 [2, 3, 11, 30703, 82163, 132667, 137849] := cert_of 72 _ _ _ (by decide +kernel) (by
  intro q hq
  simp only [List.mem_cons, List.not_mem_nil, or_false] at hq
  rcases hq with rfl | rfl | rfl | rfl | rfl | rfl | rfl
  · exact lsmalls _ (by decide)
  · exact lsmalls _ (by decide)
  · exact lsmalls _ (by decide)
  · exact lsmalls _ (by decide)
  · exact lsmalls _ (by decide)
  · exact lsmalls _ (by decide)
  · exact lsmalls _ (by decide))
theorem l2 : Cert 198211423230930754013084525763697 5 [2, 2, 2, 2, 3, 23, 58964693, 3044861653679985063343] := cert_of 108 _ _ _ (by decide +kernel) (by
  intro q hq
  simp only [List.mem_cons, List.not_mem_nil, or_false] at hq
  rcases hq with rfl | rfl | rfl | rfl | rfl | rfl | rfl | rfl
  · exact lsmalls _ (by decide)
  · exact lsmalls _ (by decide)
  · exact lsmalls _ (by decide)
  · exact lsmalls _ (by decide)
  · exact lsmalls _ (by decide)
  · exact lsmalls _ (by decide)
  · exact l0.prime
  · exact l1.prime)
theorem l3 : Cert 292386187 2 [2, 3, 3, 3, 3, 307, 5879] := cert_of 29 _ _ _ (by decide +kernel) (by
  intro q hq
  simp only [List.mem_cons, List.not_mem_nil, or_false] at hq
  rcases hq with rfl | rfl | rfl | rfl | rfl | rfl | rfl
  · exact lsmalls _ (by decide)
  · exact lsmalls _ (by decide)
  · exact lsmalls _ (by decide)
  · exact lsmalls _ (by decide)
  · exact lsmalls _ (by decide)
  · exact lsmalls _ (by decide)
  · exact lsmalls _ (by decide))
theorem l4 : Cert 213441916511 13 [2, 5, 73, 292386187] := cert_of 38 _ _ _ (by decide +kernel) (by
  intro q hq
  simp only [List.mem_cons, List.not_mem_nil, or_false] at hq
  rcases hq with rfl | rfl | rfl | rfl
  · exact lsmalls _ (by decide)
  · exact lsmalls _ (by decide)
  · exact lsmalls _ (by decide)
  · exact l3.prime)
theorem l5 : Cert 1257559732178653 2 [2, 2, 3, 7, 23, 531581, 1224481] := cert_of 51 _ _ _ (by decide +kernel) (by
  intro q hq
  simp only [List.mem_cons, List.not_mem_nil, or_false] at hq
  rcases hq with rfl | rfl | rfl | rfl | rfl | rfl | rfl
  · exact lsmalls _ (by decide)
  · exact lsmalls _ (by decide)
  · exact lsmalls _ (by decide)
  · exact lsmalls _ (by decide)
  · exact lsmalls _ (by decide)
  · exact lsmalls _ (by decide)
  · exact lsmalls _ (by decide))
theorem l6 : Cert 4434155615661930479 17 [2, 41, 43, 1257559732178653] := cert_of 62 _ _ _ (by decide +kernel) (by
  intro q hq
  simp only [List.mem_cons, List.not_mem_nil, or_false] at hq
  rcases hq with rfl | rfl | rfl | rfl
  · exact lsmalls _ (by decide)
  · exact lsmalls _ (by decide)
  · exact lsmalls _ (by decide)
  · exact l5.prime)
theorem l7 : Cert 172054593956031949258510691 2 [2, 5, 1361, 2851, 4434155615661930479] := cert_of 88 _ _ _ (by decide +kernel) (by
  intro q hq
  simp only [List.mem_cons, List.not_mem_nil, or_false] at hq
  rcases hq with rfl | rfl | rfl | rfl | rfl
  · exact lsmalls _ (by decide)
  · exact lsmalls _ (by decide)
  · exact lsmalls _ (by decide)
  · exact lsmalls _ (by decide)
  · exact l6.prime)
theorem l8 : Cert 19757330305831588566944191468367130476339 2 [2, 269, 213441916511, 172054593956031949258510691] := cert_of 134 _ _ _ (by decide +kernel) (by
  intro q hq
  simp only [List.mem_cons, List.not_mem_nil, or_false] at hq
  rcases hq with rfl | rfl | rfl | rfl
  · exact lsmalls _ (by decide)
  · exact lsmalls _ (by decide)
  · exact l4.prime
  · exact l7.prime)
theorem l9 : Cert 276602624281642239937218680557139826668747 2 [2, 7, 19757330305831588566944191468367130476339] := cert_of 138 _ _ _ (by decide +kernel) (by
  intro q hq
  simp only [List.mem_cons, List.not_mem_nil, or_false] at hq
  rcases hq with rfl | rfl | rfl
  · exact lsmalls _ (by decide)
  · exact lsmalls _ (by decide)
  · exact l8.prime)
theorem l10 : Cert 7237005577332262213973186563042994240857116359379907606001950938285454250989 2 [2, 2, 3, 11, 198211423230930754013084525763697, 276602624281642239937218680557139826668747] := cert_of 253 _ _ _ (by decide +kernel) (by
  intro q hq
  simp only [List.mem_cons, List.not_mem_nil, or_false] at hq
  rcases hq with rfl | rfl | rfl | rfl | rfl | rfl
  · exact lsmalls _ (by decide)
  · exact lsmalls _ (by decide)
  · exact lsmalls _ (by decide)
  · exact lsmalls _ (by decide)
  · exact l2.prime
  · exact l9.prime)
theorem ell_prime : Pr 7237005577332262213973186563042994240857116359379907606001950938285454250989 := l10.prime
end Go.Proofs.YtdpokjhoedhadaaDoor.num
