/-
  The walk of the program's PrefixText.
  (-DROP-: what the seat lacks is left out.)
-/
import Derived.Test.YtengnjffajimdaaNibI4
import Derived.Test.YtengnjffajimdaaNibS7
namespace Go.Proofs.Ytengnjffajimdaa
open Go.RowKit

/-- The halves that the program puts ahead. -/
def hdL (l : List Int) (leaf : Bool) : List Int := if l.length % 2 = 1 then [if leaf then 3 else 1] else [if leaf then 2 else 0, 0]
theorem hd_two {l : List Int} (leaf : Bool) (h : nibOk l = true) : (⟨(twoL (hdL l leaf ++ l)).toArray⟩ : ByteArray) = preT l leaf := by
  unfold preT
  rw [if_pos h]
  congr 2
  unfold hdL preL preR
  by_cases ho : l.length % 2 = 1
  · rw [if_pos ho, if_pos ho]
    match l, ho with
    | x :: t, ho =>
      have e : preN (x :: t) leaf = 16 * (if leaf then 3 else 1) + x := by
        unfold preN
        rw [if_pos ho]
        show _ + (16 + x) = _
        cases leaf <;> simp <;> omega
      show twoB _ x :: twoL t = _ :: twoL t
      rw [e]
      rfl
  · rw [if_neg ho, if_neg ho]
    have e : preN l leaf = 16 * (if leaf then 2 else 0) + 0 := by
      unfold preN
      rw [if_neg ho]
      cases leaf <;> rfl
    show twoB _ 0 :: twoL l = _ :: twoL l
    rw [e]
    rfl
theorem hd_len (l : List Int) (leaf : Bool) : (hdL l leaf ++ l).length = 2 * ((l.length + 2) / 2) := by
  rw [List.length_append]
  unfold hdL
  split
  · simp only [List.length_singleton]; omega
  · simp only [List.length_cons, List.length_nil]; omega
theorem hd_in {l : List Int} (leaf : Bool) (h : ∀ j, 0 ≤ l.getD j 0 ∧ l.getD j 0 ≤ 15) : ∀ j, 0 ≤ (hdL l leaf ++ l).getD j 0 ∧ (hdL l leaf ++ l).getD j 0 ≤ 15 := by
  intro j
  unfold hdL
  split
  · match j with
    | 0 => cases leaf <;> simp
    | j + 1 => exact h j
  · match j with
    | 0 => cases leaf <;> simp
    | 1 => simp
    | j + 2 => exact h j
theorem ints_news {w W : World} {B : Nat} {ad : Addr} {l : List Int} (h : IntsAt w (some ad) l.length B (fun j => l.getD j 0)) (hb : Below B w W) : ∀ j u, (zsV l)[j]? = some u → W.cell? (ad.add j) = some u := by
  intro j u hu
  have hj : j < l.length := by simpa [zsV] using (List.getElem?_eq_some_iff.1 hu).1
  obtain ⟨b, off, e, hbl, hz⟩ := h j hj
  injection e with e
  subst e
  rw [Addr.add_lit, (hb.cell (p := ⟨b, off + j, none⟩) hbl), hz, ← hu]
  simp [zsV, hj]
theorem run_append_noneC {P : Program} {w : World} (base : Nat) (t ty e : TypeId) (i : TypeInfo) (size : Nat) (ht : P.underlying t = some (.slice e)) (hi : P.info? e = some i)
    (v : Value) (n c : Nat) (xs : List Value) (hown : w.ownsRow base e size v n xs) :
    (Builtin.append_ #[t, t] ty #[v, .slice none 0 c]).run P w = .ok v w := by
  rcases hown.2 with ⟨rfl, rfl⟩ | ⟨g, cap, cur, rfl, _, _, hnc, _⟩
  · simp [Builtin.append_, run_underlying ht, sizeOf, typeInfo, hi, Builtin.lenOf, Builtin.firstCells]
  · simp [Builtin.append_, run_underlying ht, sizeOf, typeInfo, hi, Builtin.lenOf, Builtin.firstCells, hnc, storeCells]
theorem wpList_append_noneC {P : Program} {w : World} {ops : Array Oper} {rest : List Oper} {o : Oper} {a : Act} {Q : Exit → Act → World → Prop} (hgd : o.guard = none) (s x : Operand) (t : TypeId)
    (ho : o.op = .call { callee := .builtin .append, args := #[s, x], argTypes := #[t, t] })
    (base : Nat) (e : TypeId) (i : TypeInfo) (size : Nat) (ht : P.underlying t = some (.slice e)) (hi : P.info? e = some i)
    (v : Value) (n c : Nat) (xs : List Value) (hs : a.eval s = v) (hown : w.ownsRow base e size v n xs) (hx : a.eval x = .slice none 0 c)
    (h : wpList P ops Q rest (a.put o.dst v) w) : wpList P ops Q (o :: rest) a w := by
  refine wpList_plain hgd fun K hK => ?_
  have hrun := run_append_noneC (P := P) (w := w) base t o.type e i size ht hi v n c xs hown
  unfold Oper.wp
  simp [execOp, ho, resolve, invoke, builtin, hs, hx, hrun, Result.andThen]
  exact hK _ _ h

set_option maxHeartbeats 1600000 in
set_option maxRecDepth 100000 in
theorem iPrefix_any (v : Value) (l : List Int) (leaf : Bool) (hl : l.length ≤ 1048576) (w : World) (h : ZAt w w.heap.size v l) :
    Calls Try.prog 11 #[v, .bool leaf] w fun e w' => e = .returned (.tuple #[.string (preT l leaf), .bool (nibOk l)]) ∧ Below w.heap.size w w' := by
  obtain ⟨i0, hi, hz0, hz1, hz2⟩ := info_parts info3I
  have HO : Hid (∀ w', w = w' → Calls Try.prog 19 #[v] w' fun e w'' => e = .returned (.bool (nibOk l)) ∧ w' = w'') := fun w' e => by subst e; exact iNibOk_any v l hl w h
  obtain ⟨a, cp, rfl, hA⟩ := h
  have HA : Hid (IntsAt w a l.length w.heap.size (fun j => l.getD j 0)) := hA
  clear hA
  cases hok : nibOk l
  · rw [hok] at HO
    have HE : Hid (preT l leaf = ⟨#[]⟩) := by show _ = _; unfold preT; rw [hok]; rfl
    clear hok
    go_enter Try.func11, Try.ntmps11
    go_wp2_with (go_at_call 19; refine (HO.out _ rfl).mono ?_; rintro e wz ⟨rfl, rfl⟩)
    go_ret2
    exact ⟨by rw [HE.out]; rfl, Below.refl _ _⟩
  · rw [hok] at HO
    obtain ⟨hl64, hin⟩ := nib_in hok
    have HT : Hid (∀ (u : Value) W, ZAt W W.heap.size u (hdL l leaf ++ l) → Calls Try.prog 32 #[u] W fun e w' => e = .returned (.string (preT l leaf)) ∧ Below W.heap.size W w') := fun u W hu => by
      have h1 := iTwo_any u _ ((l.length + 2) / 2) (hd_len l leaf) (by rw [hd_len]; omega) (hd_in leaf hin) W hu
      rw [hd_two leaf hok] at h1
      exact h1
    have HNW : Hid (∀ W ad, a = some ad → Below w.heap.size w W → ∀ j u, (zsV l)[j]? = some u → W.cell? (ad.add j) = some u) := fun W ad ha hb => by
      have h1 := HA.out
      rw [ha] at h1
      exact ints_news h1 hb
    have HNIL : Hid (a = none → l = []) := fun ha => by
      rcases Nat.eq_zero_or_pos l.length with h0 | h0
      · exact List.eq_nil_of_length_eq_zero h0
      · obtain ⟨b, off, e, _⟩ := HA.out 0 h0
        rw [ha] at e
        cases e
    generalize preT l leaf = T at HT ⊢
    clear hok hin HA
    have HZL : Hid ((zsV l).length = l.length) := by show _ = _; simp [zsV]
    obtain ⟨n, hn⟩ : ∃ n, l.length = n := ⟨_, rfl⟩
    have HNN : Hid (l.length = n) := hn
    rw [hn] at HO HZL hl hl64 ⊢
    clear hn
    by_cases ho : n % 2 = 1
    · have ht : Int.tmod (n : Int) 2 = 1 := by rw [Int.tmod_eq_emod_of_nonneg (by omega)]; omega
      have ht2 : (n : Int) % 2 = 1 := by omega
      cases a with
      | none => have := HNN.out; rw [HNIL.out rfl] at this; simp at this; omega
      | some ad =>
        cases leaf
        · have HD : Hid (hdL l false = [1]) := by show _ = _; unfold hdL; rw [if_pos (by rw [HNN.out]; exact ho)]; rfl
          rw [HD.out] at HT
          clear HD
          have hown : World.ownsRow ((w.alloc (.cells #[.int .i64 0, .int .i64 0] 3)).alloc (.cells #[.int .i64 1] 3)) w.heap.size 3 1 (.slice (some ⟨w.heap.size + 1, 0, none⟩) 1 1) 1 [.int .i64 1] := by
            have h := World.ownsRow_lit (base := w.heap.size) (e := 3) (size := 1) (w.alloc (.cells #[.int .i64 0, .int .i64 0] 3)) #[.int .i64 1] 1 (by simp) (by simp [maxLen]) (by simp)
            simpa using h
          have HB : Below w.heap.size w ((w.alloc (.cells #[.int .i64 0, .int .i64 0] 3)).alloc (.cells #[.int .i64 1] 3)) := ((Below.refl _ _).alloc (Nat.le_refl _) _).alloc (by simp) _
          have hbs : w.heap.size ≤ (World.heap ((w.alloc (.cells #[.int .i64 0, .int .i64 0] 3)).alloc (.cells #[.int .i64 1] 3))).size := HB.size
          have hnw := HNW.out _ ad rfl HB
          have hzl := HZL.out
          have hm63 : 1 + n ≤ maxLen := by unfold maxLen; omega
          go_enter Try.func11, Try.ntmps11
          go_wp2_with (first | (go_at_call 19; refine (HO.out _ rfl).mono ?_; rintro e wz ⟨rfl, rfl⟩) | (at_builtin; refine wpList_append_own _ rfl _ _ 24 rfl w.heap.size 3 i0 (.int .i64 0) 1 8 Try.underlying24 hi hz0 hz1 hz2 rfl (by decide) _ 1 _ rfl hown ad n cp (zsV l) rfl (by rw [hzl, Nat.mul_one]) hnw (zsV_oneC _) hm63 (by omega) hbs ?_))
          intro v4 w4 hown4 hgrow _
          have HB4 : Below w.heap.size w w4 := HB.grown hgrow hbs (fun k hk => (hown.lt k hk).1)
          have HR : RowZs w.heap.size w4 v4 ([1] ++ l) := by
            unfold RowZs
            rw [zsV_append, List.length_append, HNN.out]
            exact hown4
          have hat := (ZOwn.of HR).at
          obtain ⟨va, vc, hv⟩ := row_form HR
          subst hv
          have hln : ([1] ++ l).length = 1 + n := by rw [List.length_append, HNN.out]; rfl
          rw [hln] at hat
          rw [hln]
          clear hown4 hgrow hown HB HR hnw hzl hbs HO hln
          go_wp2_with fail
          refine (HT.out _ _ hat).mono ?_
          rintro e w5 ⟨rfl, hb5⟩
          have HB5 := below_then HB4 hb5
          go_wp2
          go_ret2
          exact ⟨by rfl, HB5⟩
        · have HD : Hid (hdL l true = [3]) := by show _ = _; unfold hdL; rw [if_pos (by rw [HNN.out]; exact ho)]; rfl
          rw [HD.out] at HT
          clear HD
          have hown : World.ownsRow ((w.alloc (.cells #[.int .i64 0, .int .i64 0] 3)).alloc (.cells #[.int .i64 3] 3)) w.heap.size 3 1 (.slice (some ⟨w.heap.size + 1, 0, none⟩) 1 1) 1 [.int .i64 3] := by
            have h := World.ownsRow_lit (base := w.heap.size) (e := 3) (size := 1) (w.alloc (.cells #[.int .i64 0, .int .i64 0] 3)) #[.int .i64 3] 1 (by simp) (by simp [maxLen]) (by simp)
            simpa using h
          have HB : Below w.heap.size w ((w.alloc (.cells #[.int .i64 0, .int .i64 0] 3)).alloc (.cells #[.int .i64 3] 3)) := ((Below.refl _ _).alloc (Nat.le_refl _) _).alloc (by simp) _
          have hbs : w.heap.size ≤ (World.heap ((w.alloc (.cells #[.int .i64 0, .int .i64 0] 3)).alloc (.cells #[.int .i64 3] 3))).size := HB.size
          have hnw := HNW.out _ ad rfl HB
          have hzl := HZL.out
          have hm63 : 1 + n ≤ maxLen := by unfold maxLen; omega
          go_enter Try.func11, Try.ntmps11
          go_wp2_with (first | (go_at_call 19; refine (HO.out _ rfl).mono ?_; rintro e wz ⟨rfl, rfl⟩) | (at_builtin; refine wpList_append_own _ rfl _ _ 24 rfl w.heap.size 3 i0 (.int .i64 0) 1 8 Try.underlying24 hi hz0 hz1 hz2 rfl (by decide) _ 1 _ rfl hown ad n cp (zsV l) rfl (by rw [hzl, Nat.mul_one]) hnw (zsV_oneC _) hm63 (by omega) hbs ?_))
          intro v4 w4 hown4 hgrow _
          have HB4 : Below w.heap.size w w4 := HB.grown hgrow hbs (fun k hk => (hown.lt k hk).1)
          have HR : RowZs w.heap.size w4 v4 ([3] ++ l) := by
            unfold RowZs
            rw [zsV_append, List.length_append, HNN.out]
            exact hown4
          have hat := (ZOwn.of HR).at
          obtain ⟨va, vc, hv⟩ := row_form HR
          subst hv
          have hln : ([3] ++ l).length = 1 + n := by rw [List.length_append, HNN.out]; rfl
          rw [hln] at hat
          rw [hln]
          clear hown4 hgrow hown HB HR hnw hzl hbs HO hln
          go_wp2_with fail
          refine (HT.out _ _ hat).mono ?_
          rintro e w5 ⟨rfl, hb5⟩
          have HB5 := below_then HB4 hb5
          go_wp2
          go_ret2
          exact ⟨by rfl, HB5⟩
    · have ht : Int.tmod (n : Int) 2 = 0 := by rw [Int.tmod_eq_emod_of_nonneg (by omega)]; omega
      have ht2 : (n : Int) % 2 = 0 := by omega
      cases a with
      | none =>
        cases leaf
        · have HD : Hid (hdL l false = [0, 0]) := by show _ = _; unfold hdL; rw [if_neg (by rw [HNN.out]; exact ho)]; rfl
          rw [HD.out] at HT
          clear HD
          obtain rfl : l = [] := HNIL.out rfl
          obtain rfl : n = 0 := by have := HNN.out; simpa using this.symm
          have hown : World.ownsRow (w.alloc (.cells #[.int .i64 0, .int .i64 0] 3)) w.heap.size 3 1 (.slice (some ⟨w.heap.size, 0, none⟩) 2 2) 2 [.int .i64 0, .int .i64 0] := by
            have h := World.ownsRow_lit (base := w.heap.size) (e := 3) (size := 1) w #[.int .i64 0, .int .i64 0] 2 (Nat.le_refl _) (by simp [maxLen]) (by simp)
            simpa using h
          have HB : Below w.heap.size w (w.alloc (.cells #[.int .i64 0, .int .i64 0] 3)) := (Below.refl _ _).alloc (Nat.le_refl _) _
          have hbs : w.heap.size ≤ (World.heap (w.alloc (.cells #[.int .i64 0, .int .i64 0] 3))).size := HB.size
          go_enter Try.func11, Try.ntmps11
          go_wp2_with (first | (go_at_call 19; refine (HO.out _ rfl).mono ?_; rintro e wz ⟨rfl, rfl⟩) | (at_builtin; refine wpList_append_noneC rfl _ _ 24 rfl w.heap.size 3 i0 1 Try.underlying24 hi _ 2 cp _ rfl hown rfl ?_))
          have HR : RowZs w.heap.size (w.alloc (.cells #[.int .i64 0, .int .i64 0] 3)) (.slice (some ⟨w.heap.size, 0, none⟩) 2 2) ([0, 0] ++ []) := hown
          have hat := (ZOwn.of HR).at
          generalize (w.alloc (.cells #[.int .i64 0, .int .i64 0] 3)) = W4 at *
          clear hown HR hbs HO
          go_wp2_with fail
          refine (HT.out _ _ hat).mono ?_
          rintro e w5 ⟨rfl, hb5⟩
          have HB5 := below_then HB hb5
          go_wp2
          go_ret2
          exact ⟨by rfl, HB5⟩
        · have HD : Hid (hdL l true = [2, 0]) := by show _ = _; unfold hdL; rw [if_neg (by rw [HNN.out]; exact ho)]; rfl
          rw [HD.out] at HT
          clear HD
          obtain rfl : l = [] := HNIL.out rfl
          obtain rfl : n = 0 := by have := HNN.out; simpa using this.symm
          have hown : World.ownsRow (w.alloc (.cells #[.int .i64 2, .int .i64 0] 3)) w.heap.size 3 1 (.slice (some ⟨w.heap.size, 0, none⟩) 2 2) 2 [.int .i64 2, .int .i64 0] := by
            have h := World.ownsRow_lit (base := w.heap.size) (e := 3) (size := 1) w #[.int .i64 2, .int .i64 0] 2 (Nat.le_refl _) (by simp [maxLen]) (by simp)
            simpa using h
          have HB : Below w.heap.size w (w.alloc (.cells #[.int .i64 2, .int .i64 0] 3)) := (Below.refl _ _).alloc (Nat.le_refl _) _
          have hbs : w.heap.size ≤ (World.heap (w.alloc (.cells #[.int .i64 2, .int .i64 0] 3))).size := HB.size
          go_enter Try.func11, Try.ntmps11
          go_wp2_with (first | (go_at_call 19; refine (HO.out _ rfl).mono ?_; rintro e wz ⟨rfl, rfl⟩) | (at_builtin; refine wpList_append_noneC rfl _ _ 24 rfl w.heap.size 3 i0 1 Try.underlying24 hi _ 2 cp _ rfl hown rfl ?_))
          have HR : RowZs w.heap.size (w.alloc (.cells #[.int .i64 2, .int .i64 0] 3)) (.slice (some ⟨w.heap.size, 0, none⟩) 2 2) ([2, 0] ++ []) := hown
          have hat := (ZOwn.of HR).at
          generalize (w.alloc (.cells #[.int .i64 2, .int .i64 0] 3)) = W4 at *
          clear hown HR hbs HO
          go_wp2_with fail
          refine (HT.out _ _ hat).mono ?_
          rintro e w5 ⟨rfl, hb5⟩
          have HB5 := below_then HB hb5
          go_wp2
          go_ret2
          exact ⟨by rfl, HB5⟩
      | some ad =>
        cases leaf
        · have HD : Hid (hdL l false = [0, 0]) := by show _ = _; unfold hdL; rw [if_neg (by rw [HNN.out]; exact ho)]; rfl
          rw [HD.out] at HT
          clear HD
          have hown : World.ownsRow (w.alloc (.cells #[.int .i64 0, .int .i64 0] 3)) w.heap.size 3 1 (.slice (some ⟨w.heap.size, 0, none⟩) 2 2) 2 [.int .i64 0, .int .i64 0] := by
            have h := World.ownsRow_lit (base := w.heap.size) (e := 3) (size := 1) w #[.int .i64 0, .int .i64 0] 2 (Nat.le_refl _) (by simp [maxLen]) (by simp)
            simpa using h
          have HB : Below w.heap.size w (w.alloc (.cells #[.int .i64 0, .int .i64 0] 3)) := (Below.refl _ _).alloc (Nat.le_refl _) _
          have hbs : w.heap.size ≤ (World.heap (w.alloc (.cells #[.int .i64 0, .int .i64 0] 3))).size := HB.size
          have hnw := HNW.out _ ad rfl HB
          have hzl := HZL.out
          have hm63 : 2 + n ≤ maxLen := by unfold maxLen; omega
          go_enter Try.func11, Try.ntmps11
          go_wp2_with (first | (go_at_call 19; refine (HO.out _ rfl).mono ?_; rintro e wz ⟨rfl, rfl⟩) | (at_builtin; refine wpList_append_own _ rfl _ _ 24 rfl w.heap.size 3 i0 (.int .i64 0) 1 8 Try.underlying24 hi hz0 hz1 hz2 rfl (by decide) _ 2 _ rfl hown ad n cp (zsV l) rfl (by rw [hzl, Nat.mul_one]) hnw (zsV_oneC _) hm63 (by omega) hbs ?_))
          intro v4 w4 hown4 hgrow _
          have HB4 : Below w.heap.size w w4 := HB.grown hgrow hbs (fun k hk => (hown.lt k hk).1)
          have HR : RowZs w.heap.size w4 v4 ([0, 0] ++ l) := by
            unfold RowZs
            rw [zsV_append, List.length_append, HNN.out]
            exact hown4
          have hat := (ZOwn.of HR).at
          obtain ⟨va, vc, hv⟩ := row_form HR
          subst hv
          have hln : ([0, 0] ++ l).length = 2 + n := by rw [List.length_append, HNN.out]; rfl
          rw [hln] at hat
          rw [hln]
          clear hown4 hgrow hown HB HR hnw hzl hbs HO hln
          go_wp2_with fail
          refine (HT.out _ _ hat).mono ?_
          rintro e w5 ⟨rfl, hb5⟩
          have HB5 := below_then HB4 hb5
          go_wp2
          go_ret2
          exact ⟨by rfl, HB5⟩
        · have HD : Hid (hdL l true = [2, 0]) := by show _ = _; unfold hdL; rw [if_neg (by rw [HNN.out]; exact ho)]; rfl
          rw [HD.out] at HT
          clear HD
          have hown : World.ownsRow (w.alloc (.cells #[.int .i64 2, .int .i64 0] 3)) w.heap.size 3 1 (.slice (some ⟨w.heap.size, 0, none⟩) 2 2) 2 [.int .i64 2, .int .i64 0] := by
            have h := World.ownsRow_lit (base := w.heap.size) (e := 3) (size := 1) w #[.int .i64 2, .int .i64 0] 2 (Nat.le_refl _) (by simp [maxLen]) (by simp)
            simpa using h
          have HB : Below w.heap.size w (w.alloc (.cells #[.int .i64 2, .int .i64 0] 3)) := (Below.refl _ _).alloc (Nat.le_refl _) _
          have hbs : w.heap.size ≤ (World.heap (w.alloc (.cells #[.int .i64 2, .int .i64 0] 3))).size := HB.size
          have hnw := HNW.out _ ad rfl HB
          have hzl := HZL.out
          have hm63 : 2 + n ≤ maxLen := by unfold maxLen; omega
          go_enter Try.func11, Try.ntmps11
          go_wp2_with (first | (go_at_call 19; refine (HO.out _ rfl).mono ?_; rintro e wz ⟨rfl, rfl⟩) | (at_builtin; refine wpList_append_own _ rfl _ _ 24 rfl w.heap.size 3 i0 (.int .i64 0) 1 8 Try.underlying24 hi hz0 hz1 hz2 rfl (by decide) _ 2 _ rfl hown ad n cp (zsV l) rfl (by rw [hzl, Nat.mul_one]) hnw (zsV_oneC _) hm63 (by omega) hbs ?_))
          intro v4 w4 hown4 hgrow _
          have HB4 : Below w.heap.size w w4 := HB.grown hgrow hbs (fun k hk => (hown.lt k hk).1)
          have HR : RowZs w.heap.size w4 v4 ([2, 0] ++ l) := by
            unfold RowZs
            rw [zsV_append, List.length_append, HNN.out]
            exact hown4
          have hat := (ZOwn.of HR).at
          obtain ⟨va, vc, hv⟩ := row_form HR
          subst hv
          have hln : ([2, 0] ++ l).length = 2 + n := by rw [List.length_append, HNN.out]; rfl
          rw [hln] at hat
          rw [hln]
          clear hown4 hgrow hown HB HR hnw hzl hbs HO hln
          go_wp2_with fail
          refine (HT.out _ _ hat).mono ?_
          rintro e w5 ⟨rfl, hb5⟩
          have HB5 := below_then HB4 hb5
          go_wp2
          go_ret2
          exact ⟨by rfl, HB5⟩

end Go.Proofs.Ytengnjffajimdaa
