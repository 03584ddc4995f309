/-
  What is written of a right item is read again, whole.
-/
import Derived.Test.YtmpjnabadplbjaaJoined14
import Derived.Test.YtmpjnabadplbjaaItemS2
namespace Go.Proofs.Ytmpjnabadplbjaa

theorem catB_from : ∀ (l : List ByteArray) (s : ByteArray), l.foldl (· ++ ·) s = s ++ catB l
  | [], s => by
    show s = s ++ ByteArray.empty
    rw [ByteArray.append_empty]
  | a :: l, s => by
    show l.foldl (· ++ ·) (s ++ a) = s ++ l.foldl (· ++ ·) (ByteArray.empty ++ a)
    rw [catB_from l (s ++ a), catB_from l (ByteArray.empty ++ a), ByteArray.empty_append, ByteArray.append_assoc]
theorem catB_cons (a : ByteArray) (l : List ByteArray) : catB (a :: l) = a ++ catB l := by
  show l.foldl (· ++ ·) (ByteArray.empty ++ a) = _
  rw [catB_from, ByteArray.empty_append]
theorem headB_pos (n low : Nat) : 1 ≤ (headB n low).size := by
  unfold headB
  split
  · exact Nat.le_refl 1
  · rw [ByteArray.size_append]
    have : (ByteArray.mk #[UInt8.ofNat (low + 55 + (numT n).size)]).size = 1 := rfl
    omega
theorem text_pos : ∀ (d : Nat) (x : It d), 1 ≤ (textD d x).size
  | 0, x => x.elim
  | d + 1, x => by
    rw [textD]
    have h1 := headB_pos (catB ((itK x).map (textD d))).size 192
    have h2 := headB_pos (itT x).size 128
    split
    · rw [ByteArray.size_append]; omega
    · split
      · rename_i h
        unfold lone at h
        simp only [Bool.and_eq_true, decide_eq_true_eq] at h
        omega
      · rw [ByteArray.size_append]; omega
/-- Kids are read one behind the other. -/
theorem kids_text {d f : Nat} (rd : Nat → Option (It (f + 1) × Nat)) (T : ByteArray) (stop : Nat) : ∀ (K : List (It d)) (k g : Nat) (acc : List (It (f + 1))),
    (∀ x, x ∈ K → ∀ k, Lies T (textD d x) k → ∃ y, rd k = some (y, k + (textD d x).size) ∧ sameD d (f + 1) x y = true) →
    Lies T (catB (K.map (textD d))) k → k + (catB (K.map (textD d))).size = stop → acc.length + K.length ≤ 17 → K.length < g →
    ∃ ys, kidsR rd stop g k acc = some (acc ++ ys) ∧ K.length = ys.length ∧ ∀ p, p ∈ K.zip ys → sameD d (f + 1) p.1 p.2 = true
  | [], k, g, acc, _, _, hs, _, hg => by
    obtain ⟨g, rfl⟩ : ∃ g', g = g' + 1 := ⟨g - 1, by have : 0 < g := hg; omega⟩
    have h0 : (catB (List.map (textD d) [])).size = 0 := rfl
    refine ⟨[], ?_, rfl, fun p hp => by cases hp⟩
    rw [kidsR, if_neg (by omega), List.append_nil]
  | x :: K, k, g, acc, hx, hL, hs, ha, hg => by
    obtain ⟨g, rfl⟩ : ∃ g', g = g' + 1 := ⟨g - 1, by omega⟩
    rw [List.map_cons, catB_cons] at hL hs
    rw [List.length_cons] at ha hg
    rw [ByteArray.size_append] at hs
    have hp := text_pos d x
    obtain ⟨y, h1, h2⟩ := hx x (List.mem_cons_self) k hL.left
    obtain ⟨ys, h3, h4, h5⟩ := kids_text rd T stop K (k + (textD d x).size) g (acc ++ [y]) (fun z hz => hx z (List.mem_cons_of_mem _ hz)) hL.right (by omega) (by rw [List.length_append, List.length_singleton]; omega) (by omega)
    refine ⟨y :: ys, ?_, by rw [List.length_cons, List.length_cons, h4], fun p hp => ?_⟩
    · rw [kidsR, if_pos (by omega), h1]
      show (if 17 ≤ acc.length then none else kidsR rd stop g (k + (textD d x).size) (acc ++ [y])) = _
      rw [if_neg (by omega), h3, List.append_assoc, List.singleton_append]
    · rw [List.zip_cons_cons, List.mem_cons] at hp
      rcases hp with rfl | hp
      · exact h2
      · exact h5 p hp
/-- A right item's text is read as the item. -/
theorem rd_text : ∀ (f deep d : Nat) (x : It d) (t : ByteArray) (i : Nat), f + deep = 5 → deep ≤ 4 → okD d deep x = true → (textD d x).size ≤ 65535 → Lies t (textD d x) i →
    ∃ y : It (f + 1), rdI f t i = some (y, i + (textD d x).size) ∧ sameD d (f + 1) x y = true
  | 0, _, _, _, _, _, h1, h2, _, _, _ => by omega
  | _ + 1, _, 0, x, _, _, _, _, _, _, _ => x.elim
  | f + 1, deep, d + 1, x, t, i, h1, h2, hok, hsz, hL => by
    rw [okD] at hok
    rw [textD] at hsz hL ⊢
    cases hl : itL x
    · simp only [hl, Bool.false_eq_true, if_false, Bool.and_eq_true, decide_eq_true_eq] at hok hsz hL ⊢
      by_cases ho : lone (itT x) = true
      · rw [if_pos ho] at hsz hL ⊢
        unfold lone at ho
        simp only [Bool.and_eq_true, decide_eq_true_eq] at ho
        obtain ⟨b, hb⟩ := one_byte ho.1
        have hb2 : b.toNat < 128 := by
          have h := ho.2
          rw [hb] at h
          exact h
        have hs := hL.size
        have hx := hL.extract
        rw [ho.1] at hs hx
        have hi : i < t.size := by omega
        have hg : t[i] = b := by
          refine Lies.get (r := ByteArray.empty) ?_ hi
          rw [ByteArray.append_empty, ← hb]
          exact hL
        refine ⟨(false, t.extract i (i + 1), []), ?_, ?_⟩
        · rw [rdI, dif_pos hi, hg, if_pos hb2, ho.1]
        · exact sameD_of hl hx.symm hok.1 (fun p hp => by
            have h0 : itK x = [] := List.eq_nil_of_length_eq_zero hok.1
            rw [h0, List.zip_nil_left] at hp
            cases hp)
      · rw [if_neg ho] at hsz hL ⊢
        have hs := hL.size
        rw [ByteArray.size_append] at hs
        obtain ⟨b, hi, hb, hb1, hb2, hz⟩ := head_read (n := (itT x).size) (low := 128) (by omega) (by decide) hL
        have hx := hL.right.extract
        refine ⟨(false, t.extract (i + (headB (itT x).size 128).size) (i + (headB (itT x).size 128).size + (itT x).size), []), ?_, ?_⟩
        · have c1 : ¬ b < 128 := by omega
          have c2 : ¬ 192 ≤ b := by omega
          have c3 : (i + (headB (itT x).size 128).size, (itT x).size, true).2.2 = true ∧ (i + (headB (itT x).size 128).size, (itT x).size, true).1 + (i + (headB (itT x).size 128).size, (itT x).size, true).2.1 ≤ t.size := ⟨rfl, by show i + (headB (itT x).size 128).size + (itT x).size ≤ _; omega⟩
          rw [rdI, dif_pos hi, hb, if_neg c1, if_neg c2, if_neg c2, hz, if_pos c3, ByteArray.size_append, ← Nat.add_assoc]
        · exact sameD_of hl hx.symm hok.1 (fun p hp => by
            have h0 : itK x = [] := List.eq_nil_of_length_eq_zero hok.1
            rw [h0, List.zip_nil_left] at hp
            cases hp)
    · simp only [hl, if_true, Bool.and_eq_true, decide_eq_true_eq] at hok hsz hL ⊢
      have hs := hL.size
      have hc := hL.cut
      rw [ByteArray.size_append] at hs hc hsz ⊢
      have hc2 := hc.1.right
      have hn : (catB ((itK x).map (textD d))).size ≤ 65535 := by omega
      obtain ⟨b, hi, hb, hb1, hb2, hz⟩ := head_read hn (by decide) hL
      rw [← Nat.add_assoc] at hc2 hs ⊢
      have hk : ∀ (K : List (It d)) (z : It d), z ∈ K → (textD d z).size ≤ (catB (K.map (textD d))).size := by
        intro K
        induction K with
        | nil => intro z hz; cases hz
        | cons a K ih =>
          intro z hz
          rw [List.map_cons, catB_cons, ByteArray.size_append]
          rcases List.mem_cons.1 hz with rfl | hz
          · omega
          · have := ih z hz; omega
      obtain ⟨ys, h3, h4, h5⟩ := kids_text (rdI f (t.extract 0 (i + (headB (catB ((itK x).map (textD d))).size 192).size + (catB ((itK x).map (textD d))).size))) _ (i + (headB (catB ((itK x).map (textD d))).size 192).size + (catB ((itK x).map (textD d))).size) (itK x) _ 18 [] (fun z hz k hk2 => rd_text f (deep + 1) d z _ k (by omega) (by omega) (List.all_eq_true.1 hok.2.2.2 z hz) (by have := hk (itK x) z hz; omega) hk2) hc2 rfl (by have := hok.2.1; simpa using this) (by omega)
      refine ⟨(true, ⟨#[]⟩, ys), ?_, sameD_of hl hok.1 h4 h5⟩
      have c1 : ¬ b < 128 := by omega
      have c2 : 192 ≤ b := by omega
      generalize catB ((itK x).map (textD d)) = B at hz hs h3 ⊢
      have c3 : (i + (headB B.size 192).size, B.size, true).2.2 = true ∧ (i + (headB B.size 192).size, B.size, true).1 + (i + (headB B.size 192).size, B.size, true).2.1 ≤ t.size := ⟨rfl, by show i + (headB B.size 192).size + B.size ≤ _; omega⟩
      rw [List.nil_append] at h3
      rw [rdI, dif_pos hi, hb, if_neg c1, if_pos c2, if_pos c2, hz, if_pos c3]
      show Option.map _ (kidsR (rdI f (t.extract 0 (i + (headB B.size 192).size + B.size))) (i + (headB B.size 192).size + B.size) 18 (i + (headB B.size 192).size) []) = _
      rw [h3]
      rfl

end Go.Proofs.Ytmpjnabadplbjaa
