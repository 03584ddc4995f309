/-
  Texts of one's own, joined.
-/
import Derived.Test.YtmpjnabadplbjaaItemBack2
import Derived.Test.YtmpjnabadplbjaaItemR5

/-
  ReadItem finds a right item's text, and nothing else.
-/
namespace Go.Proofs.Ytmpjnabadplbjaa

theorem textI_of {d : Nat} {x : It d} (h1 : okI x = true) (h2 : (textD d x).size ≤ 900) : textI x = (textD d x, true) := by
  unfold textI
  rw [if_pos h1, if_pos h2]
theorem textI_yes {d : Nat} {x : It d} (h : (textI x).2 = true) : okI x = true ∧ (textD d x).size ≤ 900 ∧ textI x = (textD d x, true) := by
  unfold textI at h
  by_cases h1 : okI x = true
  · rw [if_pos h1] at h
    by_cases h2 : (textD d x).size ≤ 900
    · exact ⟨h1, h2, textI_of h1 h2⟩
    · rw [if_neg h2] at h
      cases h
  · rw [if_neg h1] at h
    cases h
/-- What is written is read again. -/
theorem read_back {d : Nat} {x : It d} (h : (textI x).2 = true) : ∃ y : It 6, readI (textI x).1 = some y ∧ sameD d 6 x y = true ∧ textI y = textI x := by
  obtain ⟨h1, h2, h3⟩ := textI_yes h
  rw [h3]
  obtain ⟨y, h4, h5⟩ := rd_text 5 0 d x (textD d x) 0 rfl (by omega) h1 (by omega) ⟨ByteArray.empty, ByteArray.empty, by rw [ByteArray.empty_append, ByteArray.append_empty], rfl⟩
  have h6 := same_text d 6 x y h5
  have h7 : okI y = true := (same_ok d 6 x y h5 0).symm.trans h1
  have h8 : textI y = (textD d x, true) := by
    rw [textI_of h7 (by rw [← h6]; exact h2), ← h6]
  refine ⟨y, ?_, h5, h8⟩
  unfold readI
  rw [if_pos h2]
  show (match rdI 5 (textD d x) 0 with
    | none => none
    | some (x_1, j) => if j = (textD d x).size ∧ (textI x_1).2 = true ∧ (textI x_1).1 = textD d x then some x_1 else none) = some y
  rw [h4]
  show (if 0 + (textD d x).size = (textD d x).size ∧ (textI y).2 = true ∧ (textI y).1 = textD d x then some y else none) = some y
  rw [if_pos ⟨Nat.zero_add _, by rw [h8], by rw [h8]⟩]
/-- What is read is written so. -/
theorem read_so {t : ByteArray} {x : It 6} (h : readI t = some x) : textI x = (t, true) := by
  unfold readI at h
  by_cases h1 : t.size ≤ 900
  · rw [if_pos h1] at h
    cases h2 : rdI 5 t 0 with
    | none => rw [h2] at h; cases h
    | some y =>
      obtain ⟨y, j⟩ := y
      rw [h2] at h
      by_cases h3 : j = t.size ∧ (textI y).2 = true ∧ (textI y).1 = t
      · have h4 : some y = some x := by
          rw [← h]
          show _ = if j = t.size ∧ (textI y).2 = true ∧ (textI y).1 = t then some y else none
          rw [if_pos h3]
        injection h4 with h4
        subst h4
        obtain ⟨_, _, h5⟩ := textI_yes h3.2.1
        rw [h5] at h3 ⊢
        rw [show textD 6 y = t from h3.2.2]
      · have h4 : none = some x := by
          rw [← h]
          show _ = if j = t.size ∧ (textI y).2 = true ∧ (textI y).1 = t then some y else none
          rw [if_neg h3]
        cases h4
  · rw [if_neg h1] at h
    cases h

end Go.Proofs.Ytmpjnabadplbjaa

/-
  Two right items of one text are the same.
-/
namespace Go.Proofs.Ytmpjnabadplbjaa

theorem zip_third {α β γ : Type} (P : α → β → Prop) (Q : β → γ → Prop) (R : α → γ → Prop) (hPQ : ∀ a b c, P a b → Q b c → R a c) : ∀ (K : List α) (L : List β) (M : List γ), K.length = L.length → (∀ p, p ∈ K.zip L → P p.1 p.2) → (∀ p, p ∈ L.zip M → Q p.1 p.2) → ∀ p, p ∈ K.zip M → R p.1 p.2
  | [], _, _, _, _, _, p, hp => by rw [List.zip_nil_left] at hp; cases hp
  | _ :: _, _, [], _, _, _, p, hp => by rw [List.zip_nil_right] at hp; cases hp
  | _ :: _, [], _ :: _, h, _, _, _, _ => by cases h
  | a :: K, b :: L, c :: M, h, h1, h2, p, hp => by
    rw [List.zip_cons_cons, List.mem_cons] at hp
    rcases hp with rfl | hp
    · exact hPQ a b c (h1 (a, b) (by simp)) (h2 (b, c) (by simp))
    · exact zip_third P Q R hPQ K L M (by simpa using h) (fun q hq => h1 q (by simp [hq])) (fun q hq => h2 q (by simp [hq])) p hp
theorem same_trans : ∀ (d e f : Nat) (x : It d) (y : It e) (z : It f), sameD d e x y = true → sameD e f y z = true → sameD d f x z = true
  | 0, _, _, x, _, _, _, _ => x.elim
  | _ + 1, 0, _, _, y, _, _, _ => y.elim
  | _ + 1, _ + 1, 0, _, _, z, _, _ => z.elim
  | d + 1, e + 1, f + 1, x, y, z, h, k => by
    obtain ⟨h1, h2, h3, h4⟩ := sameD_parts h
    obtain ⟨k1, k2, k3, k4⟩ := sameD_parts k
    exact sameD_of (h1.trans k1) (h2.trans k2) (h3.trans k3) (zip_third (fun a b => sameD d e a b = true) (fun b c => sameD e f b c = true) (fun a c => sameD d f a c = true) (fun a b c p q => same_trans d e f a b c p q) _ _ _ h3 h4 k4)
/-- Two items that have one text are the same. -/
theorem one_text {d e : Nat} {x : It d} {y : It e} (hx : (textI x).2 = true) (h : textI x = textI y) : sameD d e x y = true := by
  obtain ⟨a, h1, h2, _⟩ := read_back hx
  obtain ⟨b, h3, h4, _⟩ := read_back (x := y) (by rw [← h]; exact hx)
  rw [← h, h1] at h3
  injection h3 with h3
  subst h3
  exact same_trans d 6 e x a y h2 (same_turn e 6 y a h4)

end Go.Proofs.Ytmpjnabadplbjaa

/-
  Reading items from the beginning of a text, with no look at whether they are right: no program in here.
-/
namespace Go.Proofs.Ytmpjnabadplbjaa

/-- So many bytes from the beginning, and what is behind them. -/
def cutA (t : ByteArray) (n : Nat) : Option (ByteArray × ByteArray) := if n ≤ t.size then some (t.extract 0 n, t.extract n t.size) else none
/-- As many bytes as a head told, or as the bytes behind it tell. -/
def cutF (t : ByteArray) (told : Nat) : Option (ByteArray × ByteArray) :=
  if told ≤ 55 then cutA t told
  else if told - 55 ≤ t.size ∧ (rdN (t.extract 0 (told - 55))).2 = true then cutA (t.extract (told - 55) t.size) (rdN (t.extract 0 (told - 55))).1
  else none
/-- The items that a text holds one behind the other. -/
def kidsF {α : Type} (rd : ByteArray → Option (α × ByteArray)) : Nat → ByteArray → List α → Option (List α)
  | 0, _, _ => none
  | g + 1, t, acc => if t.size = 0 then some acc else match rd t with
    | none => none
    | some (x, r) => kidsF rd g r (acc ++ [x])
def leafO {f : Nat} (p : Option (ByteArray × ByteArray)) : Option (It (f + 1) × ByteArray) := p.map fun p => ((false, p.1, []), p.2)
def listO {f : Nat} (rd : ByteArray → Option (It (f + 1) × ByteArray)) (p : Option (ByteArray × ByteArray)) : Option (It (f + 1 + 1) × ByteArray) :=
  p.bind fun p => (kidsF rd (p.1.size + 1) p.1 []).map fun K => ((true, ⟨#[]⟩, K), p.2)
/-- The item at a text's beginning, and what is behind it. -/
def rdF : (f : Nat) → ByteArray → Option (It (f + 1) × ByteArray)
  | 0, _ => none
  | f + 1, t => if h : 0 < t.size then
      (if t[0].toNat < 128 then some ((false, t.extract 0 1, []), t.extract 1 t.size)
      else if t[0].toNat < 192 then leafO (cutF (t.extract 1 t.size) (t[0].toNat - 128))
      else listO (rdF f) (cutF (t.extract 1 t.size) (t[0].toNat - 192)))
    else none

theorem cutA_size {t a b : ByteArray} {n : Nat} (h : cutA t n = some (a, b)) : a.size + b.size = t.size := by
  unfold cutA at h
  split at h
  · injection h with h
    injection h with h1 h2
    subst h1; subst h2
    rw [ByteArray.size_extract, ByteArray.size_extract]
    omega
  · cases h
theorem cutF_size {t a b : ByteArray} {n : Nat} (h : cutF t n = some (a, b)) : a.size + b.size ≤ t.size := by
  unfold cutF at h
  split at h
  · have := cutA_size h; omega
  · split at h
    · have h1 := cutA_size h
      rw [ByteArray.size_extract] at h1
      omega
    · cases h
theorem rdF_less : ∀ (f : Nat) (t : ByteArray) (x : It (f + 1)) (r : ByteArray), rdF f t = some (x, r) → r.size < t.size
  | 0, _, _, _, h => by rw [rdF] at h; cases h
  | f + 1, t, x, r, h => by
    rw [rdF] at h
    split at h
    · rename_i h0
      have he : (t.extract 1 t.size).size = t.size - 1 := by rw [ByteArray.size_extract]; omega
      split at h
      · injection h with h
        injection h with h1 h2
        subst h2
        omega
      · split at h
        · cases hc : cutF (t.extract 1 t.size) (t[0].toNat - 128) with
          | none => rw [hc] at h; cases h
          | some p =>
            rw [hc] at h
            injection h with h
            injection h with h1 h2
            have := cutF_size hc
            subst h2
            omega
        · cases hc : cutF (t.extract 1 t.size) (t[0].toNat - 192) with
          | none => rw [hc] at h; cases h
          | some p =>
            rw [hc] at h
            have h3 : (kidsF (rdF f) (p.1.size + 1) p.1 []).map (fun K => (((true, ⟨#[]⟩, K) : It (f + 1 + 1)), p.2)) = some (x, r) := h
            cases hk : kidsF (rdF f) (p.1.size + 1) p.1 [] with
            | none => rw [hk] at h3; cases h3
            | some K =>
              rw [hk] at h3
              injection h3 with h3
              injection h3 with h1 h2
              have := cutF_size hc
              subst h2
              omega
    · cases h

theorem ext_left (a b : ByteArray) : (a ++ b).extract 0 a.size = a := ByteArray.extract_append_eq_left rfl
theorem ext_right (a b : ByteArray) : (a ++ b).extract a.size (a ++ b).size = b := ByteArray.extract_append_eq_right rfl (by rw [ByteArray.size_append])
theorem cutA_app (a b : ByteArray) : cutA (a ++ b) a.size = some (a, b) := by
  unfold cutA
  rw [if_pos (by rw [ByteArray.size_append]; omega), ext_left, ext_right]
/-- What stands behind a head is cut off. -/
theorem head_cut {n low : Nat} {s r : ByteArray} (hn : n ≤ 65535) (hl : low ≤ 192) (hs : s.size = n) : ∃ h : 0 < (headB n low ++ s ++ r).size, low ≤ (headB n low ++ s ++ r)[0].toNat ∧ (headB n low ++ s ++ r)[0].toNat ≤ low + 57 ∧ cutF ((headB n low ++ s ++ r).extract 1 (headB n low ++ s ++ r).size) ((headB n low ++ s ++ r)[0].toNat - low) = some (s, r) := by
  by_cases h1 : n ≤ 55
  · have e : headB n low = ⟨#[UInt8.ofNat (low + n)]⟩ := by unfold headB; rw [if_pos h1]
    have ez : (ByteArray.mk #[UInt8.ofNat (low + n)]).size = 1 := rfl
    rw [e, ByteArray.append_assoc]
    have h0 : 0 < (ByteArray.mk #[UInt8.ofNat (low + n)] ++ (s ++ r)).size := by rw [ByteArray.size_append]; omega
    have hg : (ByteArray.mk #[UInt8.ofNat (low + n)] ++ (s ++ r))[0].toNat = low + n := by
      rw [ByteArray.getElem_append_left (by omega)]
      exact toNat_of (by omega)
    have hx : (ByteArray.mk #[UInt8.ofNat (low + n)] ++ (s ++ r)).extract 1 (ByteArray.mk #[UInt8.ofNat (low + n)] ++ (s ++ r)).size = s ++ r := ext_right (ByteArray.mk #[UInt8.ofNat (low + n)]) (s ++ r)
    refine ⟨h0, by omega, by omega, ?_⟩
    rw [hx, hg, show low + n - low = n by omega]
    unfold cutF
    rw [if_pos h1, ← hs]
    exact cutA_app s r
  · have e : headB n low = ⟨#[UInt8.ofNat (low + 55 + (numT n).size)]⟩ ++ numT n := by unfold headB; rw [if_neg h1]
    have h2 := numT_two hn
    have h0' : (numT n).size ≠ 0 := by
      intro h0
      have h3 := (numT_val (n := n) (by omega)).2
      have h4 : (numT n).data.toList = [] := List.eq_nil_of_length_eq_zero (by rw [Array.length_toList]; exact h0)
      rw [h4] at h3
      have : (0 : Nat) = n := h3
      omega
    have hr := rdN_numT hn
    rw [e, ByteArray.append_assoc, ByteArray.append_assoc]
    generalize numT n = N at h2 h0' hr ⊢
    have ez : (ByteArray.mk #[UInt8.ofNat (low + 55 + N.size)]).size = 1 := rfl
    have h0 : 0 < (ByteArray.mk #[UInt8.ofNat (low + 55 + N.size)] ++ (N ++ (s ++ r))).size := by rw [ByteArray.size_append]; omega
    have hg : (ByteArray.mk #[UInt8.ofNat (low + 55 + N.size)] ++ (N ++ (s ++ r)))[0].toNat = low + 55 + N.size := by
      rw [ByteArray.getElem_append_left (by omega)]
      exact toNat_of (by omega)
    have hx : (ByteArray.mk #[UInt8.ofNat (low + 55 + N.size)] ++ (N ++ (s ++ r))).extract 1 (ByteArray.mk #[UInt8.ofNat (low + 55 + N.size)] ++ (N ++ (s ++ r))).size = N ++ (s ++ r) := ext_right (ByteArray.mk #[UInt8.ofNat (low + 55 + N.size)]) (N ++ (s ++ r))
    refine ⟨h0, by omega, by omega, ?_⟩
    rw [hx, hg, show low + 55 + N.size - low = 55 + N.size by omega]
    unfold cutF
    rw [if_neg (by omega), show 55 + N.size - 55 = N.size by omega, ext_left, ext_right, hr, if_pos ⟨by rw [ByteArray.size_append]; omega, rfl⟩, ← hs]
    exact cutA_app s r
/-- Kids are read one behind the other. -/
theorem kids_form {d f : Nat} (rd : ByteArray → Option (It (f + 1) × ByteArray)) : ∀ (K : List (It d)) (g : Nat) (acc : List (It (f + 1))),
    (∀ x, x ∈ K → ∀ r, (textD d x ++ r).size < g → ∃ y, rd (textD d x ++ r) = some (y, r) ∧ sameD d (f + 1) x y = true) →
    (catB (K.map (textD d))).size < g →
    ∃ ys, kidsF rd g (catB (K.map (textD d))) acc = some (acc ++ ys) ∧ K.length = ys.length ∧ ∀ p, p ∈ K.zip ys → sameD d (f + 1) p.1 p.2 = true
  | [], g, acc, _, hg => by
    obtain ⟨g, rfl⟩ : ∃ g', g = g' + 1 := ⟨g - 1, by omega⟩
    refine ⟨[], ?_, rfl, fun p hp => by cases hp⟩
    rw [kidsF, if_pos (show (catB (List.map (textD d) [])).size = 0 from rfl), List.append_nil]
  | x :: K, g, acc, hx, hg => by
    obtain ⟨g, rfl⟩ : ∃ g', g = g' + 1 := ⟨g - 1, by omega⟩
    rw [List.map_cons, catB_cons] at hg ⊢
    have hp := text_pos d x
    rw [ByteArray.size_append] at hg
    obtain ⟨y, h1, h2⟩ := hx x (List.mem_cons_self) (catB (K.map (textD d))) (by rw [ByteArray.size_append]; omega)
    obtain ⟨ys, h3, h4, h5⟩ := kids_form rd K g (acc ++ [y]) (fun z hz r hr => hx z (List.mem_cons_of_mem _ hz) r (by omega)) (by omega)
    refine ⟨y :: ys, ?_, by rw [List.length_cons, List.length_cons, h4], fun p hp => ?_⟩
    · rw [kidsF, if_neg (by rw [ByteArray.size_append]; omega), h1]
      show kidsF rd g _ (acc ++ [y]) = _
      rw [h3, List.append_assoc, List.singleton_append]
    · rw [List.zip_cons_cons, List.mem_cons] at hp
      rcases hp with rfl | hp
      · exact h2
      · exact h5 p hp
/-- A right item's text is read as the item, whatever is behind it. -/
theorem form_text : ∀ (f deep d : Nat) (x : It d) (r : ByteArray), okD d deep x = true → (textD d x).size ≤ 65535 → (textD d x ++ r).size ≤ f →
    ∃ y : It (f + 1), rdF f (textD d x ++ r) = some (y, r) ∧ sameD d (f + 1) x y = true
  | 0, _, d, x, r, _, _, h => by
    have := text_pos d x
    rw [ByteArray.size_append] at h
    omega
  | _ + 1, _, 0, x, _, _, _, _ => x.elim
  | f + 1, deep, d + 1, x, r, hok, hsz, hf => by
    rw [okD] at hok
    rw [textD] at hsz hf ⊢
    cases hl : itL x
    · simp only [hl, Bool.false_eq_true, if_false, Bool.and_eq_true, decide_eq_true_eq] at hok hsz hf ⊢
      have hK : ∀ (y : It (f + 1 + 1)), itK y = [] → ∀ p, p ∈ (itK x).zip (itK y) → sameD d (f + 1) p.1 p.2 = true := fun y hy p hp => by
        have h0 : itK x = [] := List.eq_nil_of_length_eq_zero hok.1
        rw [h0, List.zip_nil_left] at hp
        cases hp
      by_cases ho : lone (itT x) = true
      · rw [if_pos ho] at hsz hf ⊢
        unfold lone at ho
        simp only [Bool.and_eq_true, decide_eq_true_eq] at ho
        obtain ⟨b, hb⟩ := one_byte ho.1
        have hb2 : b.toNat < 128 := by
          have h := ho.2
          rw [hb] at h
          exact h
        have h0 : 0 < (itT x ++ r).size := by rw [ByteArray.size_append]; omega
        have hg : (itT x ++ r)[0] = b := by
          rw [ByteArray.getElem_append_left (by omega)]
          simp only [hb]
          rfl
        refine ⟨(false, itT x, []), ?_, sameD_of hl rfl hok.1 (hK _ rfl)⟩
        have e1 : (itT x ++ r).extract 0 1 = itT x := by have := ext_left (itT x) r; rw [ho.1] at this; exact this
        have e2 : (itT x ++ r).extract 1 (itT x ++ r).size = r := by have := ext_right (itT x) r; rw [ho.1] at this; exact this
        rw [rdF, dif_pos h0, hg, if_pos hb2, e1, e2]
      · rw [if_neg ho] at hsz hf ⊢
        obtain ⟨h0, hb1, hb2, hc⟩ := head_cut (n := (itT x).size) (low := 128) (s := itT x) (r := r) (by rw [ByteArray.size_append] at hsz; omega) (by decide) rfl
        refine ⟨(false, itT x, []), ?_, sameD_of hl rfl hok.1 (hK _ rfl)⟩
        rw [rdF, dif_pos h0, if_neg (by omega), if_pos (by omega), hc]
        rfl
    · simp only [hl, if_true, Bool.and_eq_true, decide_eq_true_eq] at hok hsz hf ⊢
      have hn : (catB ((itK x).map (textD d))).size ≤ 65535 := by rw [ByteArray.size_append] at hsz; omega
      obtain ⟨h0, hb1, hb2, hc⟩ := head_cut (n := (catB ((itK x).map (textD d))).size) (low := 192) (s := catB ((itK x).map (textD d))) (r := r) hn (by decide) rfl
      have hk : ∀ (K : List (It d)) (z : It d), z ∈ K → (textD d z).size ≤ (catB (K.map (textD d))).size := by
        intro K
        induction K with
        | nil => intro z hz; cases hz
        | cons a K ih =>
          intro z hz
          rw [List.map_cons, catB_cons, ByteArray.size_append]
          rcases List.mem_cons.1 hz with rfl | hz
          · omega
          · have := ih z hz; omega
      have hh := headB_pos (catB ((itK x).map (textD d))).size 192
      have hf' : (catB ((itK x).map (textD d))).size ≤ f := by
        rw [ByteArray.size_append, ByteArray.size_append] at hf
        omega
      obtain ⟨ys, h3, h4, h5⟩ := kids_form (rdF f) (itK x) ((catB ((itK x).map (textD d))).size + 1) [] (fun z hz q hq => form_text f (deep + 1) d z q (List.all_eq_true.1 hok.2.2.2 z hz) (by have := hk (itK x) z hz; omega) (by omega)) (by omega)
      refine ⟨(true, ⟨#[]⟩, ys), ?_, sameD_of hl hok.1 h4 h5⟩
      rw [List.nil_append] at h3
      rw [rdF, dif_pos h0, if_neg (by omega), if_neg (by omega), hc]
      show Option.map _ (kidsF (rdF f) _ _ []) = _
      rw [h3]
      rfl

theorem textI_same {d e : Nat} {x : It d} {y : It e} (h : sameD d e x y = true) : textI x = textI y := by
  unfold textI okI
  rw [same_ok d e x y h 0, same_text d e x y h]
/-- What the program's ReadItem answers. -/
def readF (t : ByteArray) : Option (It (900 + 1)) := if t.size ≤ 900 then (match rdF 900 t with
  | none => none
  | some (x, _) => if textI x = (t, true) then some x else none) else none
/-- Both read the same. -/
theorem readF_so (t : ByteArray) : (readI t = none ∧ readF t = none) ∨ ∃ x y, readI t = some x ∧ readF t = some y ∧ sameD 6 (900 + 1) x y = true := by
  cases hF : readF t with
  | some y =>
    refine .inr ?_
    unfold readF at hF
    split at hF
    · cases hr : rdF 900 t with
      | none => rw [hr] at hF; cases hF
      | some p =>
        obtain ⟨z, r⟩ := p
        rw [hr] at hF
        have hF' : (if textI z = (t, true) then some z else none) = some y := hF
        split at hF'
        · rename_i h1
          injection hF' with e
          subst e
          obtain ⟨x, h2, h3, _⟩ := read_back (x := z) (by rw [h1])
          rw [h1] at h2
          exact ⟨x, z, h2, rfl, same_turn _ _ _ _ h3⟩
        · cases hF'
    · cases hF
  | none =>
    refine .inl ⟨?_, rfl⟩
    cases hI : readI t with
    | none => rfl
    | some x =>
      exfalso
      have h1 := read_so hI
      obtain ⟨h2, h3, h4⟩ := textI_yes (x := x) (by rw [h1])
      rw [h1] at h4
      injection h4 with h5 _
      obtain ⟨y, h6, h7⟩ := form_text 900 0 6 x ByteArray.empty h2 (by omega) (by rw [ByteArray.append_empty]; exact h3)
      rw [ByteArray.append_empty, ← h5] at h6
      have h8 : readF t = some y := by
        unfold readF
        rw [if_pos (by rw [h5]; exact h3), h6]
        show (if textI y = (t, true) then some y else none) = some y
        rw [if_pos ((textI_same h7).symm.trans h1)]
      rw [h8] at hF
      cases hF

end Go.Proofs.Ytmpjnabadplbjaa
