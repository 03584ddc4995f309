/-
  The walk of the specification's l17Read: where nothing is read, and where a text is.
  (-DROP-: what the seat lacks is left out.)
-/
import Derived.Test.YtmpjnabadplbjaaItemR1
import Derived.Test.YtmpjnabadplbjaaJoined9
import Derived.Test.YtmpjnabadplbjaaJoined9
namespace Go.Proofs.Ytmpjnabadplbjaa
open Go.RowKit

/-- The kids that lie from a place to an end; at most seventeen. -/
def kidsR {α : Type} (rd : Nat → Option (α × Nat)) (stop : Nat) : Nat → Nat → List α → Option (List α)
  | 0, _, _ => none
  | g + 1, k, acc => if k < stop then (match rd k with
    | none => none
    | some (x, k') => if 17 ≤ acc.length then none else kidsR rd stop g k' (acc ++ [x])) else some acc
/-- An item that is read from a place on, and the place behind it; so many levels are left. -/
def rdI : (f : Nat) → ByteArray → Nat → Option (It (f + 1) × Nat)
  | 0, _, _ => none
  | f + 1, t, i => if h : i < t.size then
      (if t[i].toNat < 128 then some ((false, t.extract i (i + 1), []), i + 1)
      else if (sizeR t i (if 192 ≤ t[i].toNat then 192 else 128) t[i].toNat).2.2 = true ∧ (sizeR t i (if 192 ≤ t[i].toNat then 192 else 128) t[i].toNat).1 + (sizeR t i (if 192 ≤ t[i].toNat then 192 else 128) t[i].toNat).2.1 ≤ t.size then
        (if 192 ≤ t[i].toNat then
          ((kidsR (rdI f (t.extract 0 ((sizeR t i 192 t[i].toNat).1 + (sizeR t i 192 t[i].toNat).2.1))) ((sizeR t i 192 t[i].toNat).1 + (sizeR t i 192 t[i].toNat).2.1) 18 (sizeR t i 192 t[i].toNat).1 []).map fun K => ((true, ⟨#[]⟩, K), (sizeR t i 192 t[i].toNat).1 + (sizeR t i 192 t[i].toNat).2.1))
        else some ((false, t.extract (sizeR t i 128 t[i].toNat).1 ((sizeR t i 128 t[i].toNat).1 + (sizeR t i 128 t[i].toNat).2.1), []), (sizeR t i 128 t[i].toNat).1 + (sizeR t i 128 t[i].toNat).2.1))
      else none)
    else none

theorem infoIt : (Try.prog.info? 26).map (·.size) = some 3 := by kernel_rfl
theorem onesIt (l : Bool) (t : ByteArray) (a : Option Addr) (n c : Nat) : (#[.bool l, .string t, .slice a n c] : Array Value).all (·.oneCell') = true := by simp [Value.oneCell']
theorem result_It3 {P : Program} {fn : Func} {p q r : Tmp} {ty t : TypeId} {fs : Array Field} (h : fn.results = #[.cell p ty, .tmp q, .tmp r]) {tmps : Array Value} {w : World} {g : Nat} {cs : Array Value} {v u : Value} (hp : tmps.getD p undef = .pointer (some ⟨g, 0, none⟩)) (hq : tmps.getD q undef = v) (hr : tmps.getD r undef = u)
    (hA : Blk w g t cs) (hu : P.underlying ty = some (.struct fs)) (hi : (P.info? ty).map (·.size) = some cs.size) : (results fn tmps).run P w = .ok (.tuple #[.agg cs, v, u]) w := by
  have hl := hA.load hu hi
  have hp' : tmps[p]?.getD undef = .pointer (some ⟨g, 0, none⟩) := by simpa using hp
  have hq' : tmps[q]?.getD undef = v := by simpa using hq
  have hr' : tmps[r]?.getD undef = u := by simpa using hr
  simp [results, h, hp', hq', hr', asAddr, hl, Result.andThen]

/-- What l17Read answers. -/
def RdEnd (f : Nat) (w : World) (r : Option (It (f + 1) × Nat)) (e : Ending) (w' : World) : Prop := Below w.heap.size w w' ∧ match r with
  | none => e = .returned (.tuple #[itV false ⟨#[]⟩ (.slice none 0 0), .int .i64 0, .bool false])
  | some (x, j) => ∃ v, e = .returned (.tuple #[itV (itL x) (itT x) v, .int .i64 (j : Int), .bool true]) ∧ KIn (fun b => w.heap.size ≤ b ∧ b < w'.heap.size) f w' v (itK x) ∧ (itT x).size ≤ 1000000

set_option maxHeartbeats 1600000 in
set_option maxRecDepth 100000 in
theorem sRead_no (t : ByteArray) (i e f : Nat) (he : e ≤ 5) (hno : t.size ≤ i ∨ 4 < e) (w : World) :
    Calls Try.prog 42 #[.string t, .int .i64 (i : Int), .int .i64 (e : Int)] w (RdEnd f w none) := by
  obtain ⟨W, hW, hb, hr⟩ := box1 w 26 #[.bool false, .string ⟨#[]⟩, .slice none 0 0]
  by_cases h1 : t.size ≤ i
  · have h1' : (t.size : Int) ≤ (i : Int) := by omega
    go_enter Try.func42, Try.ntmps42
    go_wp2_with (refine store_blk (cs' := #[.bool false, .string ⟨#[]⟩, .slice none 0 0]) rfl rfl rfl rfl rfl hr infoIt rfl (onesIt _ _ _ _ _) ?_; intro V h5 hoth hbel; have hbV := hbel _ _ (Nat.le_refl _) hb; clear hoth hbel)
    refine bodyPost_ret_by (result_It3 rfl rfl rfl rfl h5 Try.underlying26 infoIt) rfl ⟨hbV, rfl⟩
  · have h1' : ¬ (t.size : Int) ≤ (i : Int) := by omega
    have h2 : 4 < e := by omega
    go_enter Try.func42, Try.ntmps42
    go_wp2_with (refine store_blk (cs' := #[.bool false, .string ⟨#[]⟩, .slice none 0 0]) rfl rfl rfl rfl rfl hr infoIt rfl (onesIt _ _ _ _ _) ?_; intro V h5 hoth hbel; have hbV := hbel _ _ (Nat.le_refl _) hb; clear hoth hbel)
    refine bodyPost_ret_by (result_It3 rfl rfl rfl rfl h5 Try.underlying26 infoIt) rfl ⟨hbV, rfl⟩

set_option maxHeartbeats 1600000 in
set_option maxRecDepth 100000 in
theorem sRead_byte (t : ByteArray) (i e f : Nat) (ht : t.size ≤ 1000000) (hi : i < t.size) (he : e ≤ 4) (hb : t[i].toNat < 128) (w : World) :
    Calls Try.prog 42 #[.string t, .int .i64 (i : Int), .int .i64 (e : Int)] w (RdEnd (f + 1) w (some ((false, t.extract i (i + 1), []), i + 1))) := by
  obtain ⟨W, hW, hbW, hr⟩ := box1 w 26 #[.bool false, .string ⟨#[]⟩, .slice none 0 0]
  have hi0 : (0 : Int) ≤ (i : Int) := by omega
  have hi1 : (i : Int) < (t.size : Int) := by omega
  have hb1 : (t[i].toNat : Int) < 128 := by omega
  have HT : Hid ((t.extract i (i + 1)).size ≤ 1000000) := by show _ ≤ _; rw [ByteArray.size_extract]; omega
  go_enter Try.func42, Try.ntmps42
  go_wp2_with (refine store_blk (cs' := #[.bool false, .string (t.extract i (i + 1)), .slice none 0 0]) rfl rfl rfl rfl rfl hr infoIt rfl (onesIt _ _ _ _ _) ?_; intro V h5 hoth hbel; have hbV := hbel _ _ (by first | exact Nat.le_refl _ | omega) hbW; clear hoth hbel)
  refine bodyPost_ret_by (result_It3 rfl rfl rfl rfl h5 Try.underlying26 infoIt) rfl ⟨hbV, _, rfl, KIn.none _ _ _ _ _, HT.out⟩

set_option maxHeartbeats 1600000 in
set_option maxRecDepth 100000 in
theorem sRead_bad (t : ByteArray) (i e f b low : Nat) (ht : t.size ≤ 1000000) (hi : i < t.size) (he : e ≤ 4) (hb : t[i].toNat = b) (h128 : 128 ≤ b) (hlow : low = if 192 ≤ b then 192 else 128) (hno : ¬ ((sizeR t i low b).2.2 = true ∧ (sizeR t i low b).1 + (sizeR t i low b).2.1 ≤ t.size)) (hs1 : (sizeR t i low b).2.2 = true → (sizeR t i low b).1 ≤ t.size) (hs2 : (sizeR t i low b).2.1 ≤ 1000000000) (w : World) :
    Calls Try.prog 42 #[.string t, .int .i64 (i : Int), .int .i64 (e : Int)] w (RdEnd (f + 1) w none) := by
  obtain ⟨W, hW, hbW, hr⟩ := box1 w 26 #[.bool false, .string ⟨#[]⟩, .slice none 0 0]
  have hi0 : (0 : Int) ≤ (i : Int) := by omega
  have hi1 : (i : Int) < (t.size : Int) := by omega
  have hb1 : ¬ (b : Int) < 128 := by omega
  have HC : Hid (∀ w, Calls Try.prog 62 #[.string t, .int .i64 (i : Int), .int .i64 (low : Int)] w fun f w' => f = .returned (.tuple #[.int .i64 ((sizeR t i low b).1 : Int), .int .i64 ((sizeR t i low b).2.1 : Int), .bool (sizeR t i low b).2.2]) ∧ Below w.heap.size w w') := fun w => sSize17_any t i low b ht hi hb (by rw [hlow]; split <;> omega) w
  generalize (sizeR t i low b).1 = s1 at HC hno hs1
  generalize (sizeR t i low b).2.1 = s2 at HC hno hs2
  generalize (sizeR t i low b).2.2 = s3 at HC hno hs1
  by_cases hl : 192 ≤ b
  · rw [if_pos hl] at hlow
    subst hlow
    have hl' : (192 : Int) ≤ (b : Int) := by omega
    cases s3
    · clear hno hs1
      have HC2 : Hid (∀ w, Calls Try.prog 62 #[.string t, .int .i64 (i : Int), .int .i64 192] w fun f w' => f = .returned (.tuple #[.int .i64 (s1 : Int), .int .i64 (s2 : Int), .bool false]) ∧ Below w.heap.size w w') := HC
      clear HC
      go_enter Try.func42, Try.ntmps42
      go_wp2_with fail
      clear hW
      refine (HC2.out _).mono ?_
      rintro g w2 ⟨rfl, hb2⟩
      have hr2 := hr.on hb2 hr.lt
      have hB2 := below_then hbW hb2
      clear hr hbW hb2
      go_wp2_with (refine store_blk (cs' := #[.bool false, .string (⟨#[]⟩), .slice none 0 0]) rfl rfl rfl rfl rfl hr2 infoIt rfl (onesIt _ _ _ _ _) ?_; intro V h5 hoth hbel; have hbV := hbel _ _ (by first | exact Nat.le_refl _ | omega) hB2; clear hoth hbel)
      refine bodyPost_ret_by (result_It3 rfl rfl rfl rfl h5 Try.underlying26 infoIt) rfl ⟨hbV, rfl⟩
    · have hs1' := hs1 rfl
      have hno' : (t.size : Int) - (s1 : Int) < (s2 : Int) := by
        have : ¬ s1 + s2 ≤ t.size := fun h => hno ⟨rfl, h⟩
        omega
      clear hno hs1
      have HC2 : Hid (∀ w, Calls Try.prog 62 #[.string t, .int .i64 (i : Int), .int .i64 192] w fun f w' => f = .returned (.tuple #[.int .i64 (s1 : Int), .int .i64 (s2 : Int), .bool true]) ∧ Below w.heap.size w w') := HC
      clear HC
      go_enter Try.func42, Try.ntmps42
      go_wp2_with fail
      clear hW
      refine (HC2.out _).mono ?_
      rintro g w2 ⟨rfl, hb2⟩
      have hr2 := hr.on hb2 hr.lt
      have hB2 := below_then hbW hb2
      clear hr hbW hb2
      go_wp2_with (refine store_blk (cs' := #[.bool false, .string (⟨#[]⟩), .slice none 0 0]) rfl rfl rfl rfl rfl hr2 infoIt rfl (onesIt _ _ _ _ _) ?_; intro V h5 hoth hbel; have hbV := hbel _ _ (by first | exact Nat.le_refl _ | omega) hB2; clear hoth hbel)
      refine bodyPost_ret_by (result_It3 rfl rfl rfl rfl h5 Try.underlying26 infoIt) rfl ⟨hbV, rfl⟩
  · rw [if_neg hl] at hlow
    subst hlow
    have hl' : ¬ (192 : Int) ≤ (b : Int) := by omega
    cases s3
    · clear hno hs1
      have HC2 : Hid (∀ w, Calls Try.prog 62 #[.string t, .int .i64 (i : Int), .int .i64 128] w fun f w' => f = .returned (.tuple #[.int .i64 (s1 : Int), .int .i64 (s2 : Int), .bool false]) ∧ Below w.heap.size w w') := HC
      clear HC
      go_enter Try.func42, Try.ntmps42
      go_wp2_with fail
      clear hW
      refine (HC2.out _).mono ?_
      rintro g w2 ⟨rfl, hb2⟩
      have hr2 := hr.on hb2 hr.lt
      have hB2 := below_then hbW hb2
      clear hr hbW hb2
      go_wp2_with (refine store_blk (cs' := #[.bool false, .string (⟨#[]⟩), .slice none 0 0]) rfl rfl rfl rfl rfl hr2 infoIt rfl (onesIt _ _ _ _ _) ?_; intro V h5 hoth hbel; have hbV := hbel _ _ (by first | exact Nat.le_refl _ | omega) hB2; clear hoth hbel)
      refine bodyPost_ret_by (result_It3 rfl rfl rfl rfl h5 Try.underlying26 infoIt) rfl ⟨hbV, rfl⟩
    · have hs1' := hs1 rfl
      have hno' : (t.size : Int) - (s1 : Int) < (s2 : Int) := by
        have : ¬ s1 + s2 ≤ t.size := fun h => hno ⟨rfl, h⟩
        omega
      clear hno hs1
      have HC2 : Hid (∀ w, Calls Try.prog 62 #[.string t, .int .i64 (i : Int), .int .i64 128] w fun f w' => f = .returned (.tuple #[.int .i64 (s1 : Int), .int .i64 (s2 : Int), .bool true]) ∧ Below w.heap.size w w') := HC
      clear HC
      go_enter Try.func42, Try.ntmps42
      go_wp2_with fail
      clear hW
      refine (HC2.out _).mono ?_
      rintro g w2 ⟨rfl, hb2⟩
      have hr2 := hr.on hb2 hr.lt
      have hB2 := below_then hbW hb2
      clear hr hbW hb2
      go_wp2_with (refine store_blk (cs' := #[.bool false, .string (⟨#[]⟩), .slice none 0 0]) rfl rfl rfl rfl rfl hr2 infoIt rfl (onesIt _ _ _ _ _) ?_; intro V h5 hoth hbel; have hbV := hbel _ _ (by first | exact Nat.le_refl _ | omega) hB2; clear hoth hbel)
      refine bodyPost_ret_by (result_It3 rfl rfl rfl rfl h5 Try.underlying26 infoIt) rfl ⟨hbV, rfl⟩

set_option maxHeartbeats 1600000 in
set_option maxRecDepth 100000 in
theorem sRead_text (t : ByteArray) (i e f b : Nat) (ht : t.size ≤ 1000000) (hi : i < t.size) (he : e ≤ 4) (hb : t[i].toNat = b) (h128 : 128 ≤ b) (hl : ¬ 192 ≤ b) (h3 : (sizeR t i 128 b).2.2 = true) (hyes : (sizeR t i 128 b).1 + (sizeR t i 128 b).2.1 ≤ t.size) (w : World) :
    Calls Try.prog 42 #[.string t, .int .i64 (i : Int), .int .i64 (e : Int)] w (RdEnd (f + 1) w (some ((false, t.extract (sizeR t i 128 b).1 ((sizeR t i 128 b).1 + (sizeR t i 128 b).2.1), []), (sizeR t i 128 b).1 + (sizeR t i 128 b).2.1))) := by
  obtain ⟨W, hW, hbW, hr⟩ := box1 w 26 #[.bool false, .string ⟨#[]⟩, .slice none 0 0]
  have hi0 : (0 : Int) ≤ (i : Int) := by omega
  have hi1 : (i : Int) < (t.size : Int) := by omega
  have hb1 : ¬ (b : Int) < 128 := by omega
  have hl' : ¬ (192 : Int) ≤ (b : Int) := by omega
  have HC : Hid (∀ w, Calls Try.prog 62 #[.string t, .int .i64 (i : Int), .int .i64 128] w fun f w' => f = .returned (.tuple #[.int .i64 ((sizeR t i 128 b).1 : Int), .int .i64 ((sizeR t i 128 b).2.1 : Int), .bool true]) ∧ Below w.heap.size w w') := fun w => by
    have h := sSize17_any t i 128 b ht hi hb (by omega) w
    rw [h3] at h
    exact h
  clear h3
  generalize (sizeR t i 128 b).1 = s1 at HC hyes ⊢
  generalize (sizeR t i 128 b).2.1 = s2 at HC hyes ⊢
  have hs0 : ¬ (t.size : Int) - (s1 : Int) < (s2 : Int) := by omega
  have hs1 : (s1 : Int) ≤ (t.size : Int) := by omega
  have HT : Hid ((t.extract s1 (s1 + s2)).size ≤ 1000000) := by show _ ≤ _; rw [ByteArray.size_extract]; omega
  go_enter Try.func42, Try.ntmps42
  go_wp2_with fail
  clear hW
  refine (HC.out _).mono ?_
  rintro g w2 ⟨rfl, hb2⟩
  have hr2 := hr.on hb2 hr.lt
  have hB2 := below_then hbW hb2
  clear hr hbW hb2
  go_wp2_with (refine store_blk (cs' := #[.bool false, .string (t.extract s1 (s1 + s2)), .slice none 0 0]) rfl rfl rfl rfl rfl hr2 infoIt rfl (onesIt _ _ _ _ _) ?_; intro V h5 hoth hbel; have hbV := hbel _ _ (by first | exact Nat.le_refl _ | omega) hB2; clear hoth hbel)
  refine bodyPost_ret_by (result_It3 rfl rfl rfl rfl h5 Try.underlying26 infoIt) rfl ⟨hbV, _, rfl, KIn.none _ _ _ _ _, HT.out⟩

end Go.Proofs.Ytmpjnabadplbjaa
