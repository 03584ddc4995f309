/-
  Contracts of chapter 1, carried from the seats of its exact laws: RdPure.
-/
import Derived.Test.YtpienefbgpgdkaaDoorVarPure
import Derived.Lib.ItoaNum
import Derived.Lib.ItoaLen
namespace Go.Proofs.YtpienefbgpgdkaaDoor
open Go.RowKit Go.Lib

/-- The figures of a number, none for 0. -/
def dd (u : Nat) : List UInt8 := if u = 0 then [] else decDigits u

theorem dd_step {u : Nat} (h : u ≠ 0) : dd u = dd (u / 10) ++ [UInt8.ofNat (48 + u % 10)] := by
  unfold dd
  rw [if_neg h]
  by_cases h9 : u < 10
  · rw [if_pos (by omega), decDigits_one h9]
    have : u % 10 = u := by omega
    rw [this]; rfl
  · rw [if_neg (by omega), decDigits, dif_neg h9]

theorem dd_len (u : Nat) (h : u < 18446744073709551616) : (dd u).length ≤ 20 := by
  unfold dd
  by_cases h0 : u = 0
  · rw [if_pos h0]; simp
  · rw [if_neg h0, decDigits_length]; exact nDigits_le20 u h

/-- At the head of a round: u is left of n, and t stands already. -/
def DecInv (n u : Nat) (t : List UInt8) : Prop := u ≤ n ∧ dd n = dd u ++ t

theorem DecInv.start (n : Nat) : DecInv n n [] := ⟨Nat.le_refl _, by simp⟩

theorem DecInv.next {n u : Nat} {t : List UInt8} (h : DecInv n u t) (hu : u ≠ 0) : DecInv n (u / 10) ([UInt8.ofNat (48 + u % 10)] ++ t) := by
  obtain ⟨h1, h2⟩ := h
  exact ⟨by omega, by rw [h2, dd_step hu, List.append_assoc]⟩

theorem DecInv.len {n u : Nat} {t : List UInt8} (h : DecInv n u t) (hn : n < 18446744073709551616) : t.length ≤ 20 := by
  have := dd_len n hn
  have e := congrArg List.length h.2
  simp at e
  omega

theorem DecInv.all {n : Nat} {t : List UInt8} (h : DecInv n 0 t) (hn : n ≠ 0) : t = decDigits n := by
  have := h.2
  unfold dd at this
  rw [if_neg hn, if_pos rfl] at this
  simpa using this.symm

theorem itoa_pos {n : Nat} : itoa (n : Int) = decDigits n := by unfold itoa; rw [if_neg (by omega)]; simp
theorem itoa_minus {n : Nat} (h : n ≠ 0) : itoa (-(n : Int)) = 45 :: decDigits n := by unfold itoa; rw [if_pos (by omega)]; simp

def digB (b : UInt8) : Bool := decide (48 ≤ b.toNat ∧ b.toNat ≤ 57)

/-- What figures are worth. -/
def decV (l : List UInt8) : Nat := l.foldl (fun n b => 10 * n + (b.toNat - 48)) 0
def valF (l : List Nat) : Nat := l.foldl (fun n v => n * 10 + v) 0

theorem decV_snoc (l : List UInt8) (b : UInt8) : decV (l ++ [b]) = 10 * decV l + (b.toNat - 48) := by simp [decV]
theorem valF_snoc (l : List Nat) (v : Nat) : valF (l ++ [v]) = valF l * 10 + v := by simp [valF]

/-- The number whose figures these are. -/
def rdDec (l : List UInt8) : Option Nat :=
  if l.length ≤ 10 ∧ l ≠ [] ∧ l.all digB = true ∧ ¬ (l.head? = some 48 ∧ 1 < l.length) ∧ decV l ≤ 1000000000 then some (decV l) else none

theorem byte_of {c : UInt8} (h1 : 48 ≤ c.toNat) (h2 : c.toNat ≤ 57) : UInt8.ofNat (48 + (c.toNat - 48)) = c := by
  apply UInt8.toNat_inj.1
  rw [toNat_of (by omega)]
  omega

theorem decDigits_snoc {n d : Nat} (hn : n ≠ 0) (hd : d < 10) : decDigits (10 * n + d) = decDigits n ++ [UInt8.ofNat (48 + d)] := by
  rw [decDigits, dif_neg (by omega)]
  have e1 : (10 * n + d) / 10 = n := by omega
  have e2 : (10 * n + d) % 10 = d := by omega
  rw [e1, e2]

theorem decDigits_head (u : Nat) (hu : u ≠ 0) : ∃ c r, decDigits u = c :: r ∧ c ≠ 48 := by
  induction u using Nat.strongRecOn with
  | _ u ih =>
    by_cases h : u < 10
    · rw [decDigits_one h]
      refine ⟨_, [], rfl, ?_⟩
      intro e
      have := congrArg UInt8.toNat e
      rw [toNat_of (by omega)] at this
      have e2 : (48 : UInt8).toNat = 48 := rfl
      omega
    · obtain ⟨c, r, hc, hne⟩ := ih (u / 10) (by omega) (by omega)
      rw [decDigits, dif_neg h, hc]
      exact ⟨c, r ++ [UInt8.ofNat (48 + u % 10)], rfl, hne⟩

theorem digits_back : ∀ (n : Nat) (l : List UInt8), l.length = n → l ≠ [] → l.all digB = true → ¬ (l.head? = some 48 ∧ 1 < l.length) → decDigits (decV l) = l := by
  intro n
  induction n with
  | zero => intro l hl hne _ _; exact absurd (List.length_eq_zero_iff.1 hl) hne
  | succ n ih =>
    intro l hl hne hall hh
    rcases List.eq_nil_or_concat l with e | ⟨p, c, e⟩
    · exact absurd e hne
    · rw [List.concat_eq_append] at e
      subst e
      have hc : digB c = true := by
        have := List.all_eq_true.1 hall c (by simp)
        exact this
      have hc2 : 48 ≤ c.toNat ∧ c.toNat ≤ 57 := of_decide_eq_true hc
      rw [decV_snoc]
      by_cases hp : p = []
      · subst hp
        have e0 : 10 * decV [] + (c.toNat - 48) = c.toNat - 48 := by simp [decV]
        rw [e0, decDigits_one (by omega), byte_of hc2.1 hc2.2]
        rfl
      · have hpl : 0 < p.length := List.length_pos_iff.2 hp
        have hhead : p.head? ≠ some 48 := by
          intro hx
          apply hh
          refine ⟨?_, by simp; omega⟩
          rw [List.head?_append, hx]; rfl
        have hall2 : p.all digB = true := by
          rw [List.all_eq_true] at hall ⊢
          intro x hx
          exact hall x (by simp [hx])
        have ihp := ih p (by simp at hl; omega) hp hall2 (fun x => hhead x.1)
        have hnz : decV p ≠ 0 := by
          intro hz
          rw [hz, decDigits_one (by omega)] at ihp
          rw [← ihp] at hhead
          exact hhead rfl
        rw [decDigits_snoc hnz (by omega), ihp, byte_of hc2.1 hc2.2]

theorem digits_lead {u : Nat} {l : List UInt8} (h : decDigits u = l) : l ≠ [] ∧ ¬ (l.head? = some 48 ∧ 1 < l.length) := by
  by_cases hu : u = 0
  · subst hu
    rw [decDigits_one (by omega)] at h
    subst h
    simp
  · obtain ⟨c, r, hc, hne⟩ := decDigits_head u hu
    rw [hc] at h
    subst h
    refine ⟨by simp, ?_⟩
    rintro ⟨h1, _⟩
    simp at h1
    exact hne h1

theorem rdDec_same {l : List UInt8} (h1 : l.length ≤ 10) (h2 : l.all digB = true) (h3 : decV l ≤ 1000000000) (h4 : itoa (decV l : Int) = l) : rdDec l = some (decV l) := by
  rw [itoa_pos] at h4
  obtain ⟨h5, h6⟩ := digits_lead h4
  rw [rdDec, if_pos ⟨h1, h5, h2, h6, h3⟩]

theorem rdDec_other {l : List UInt8} (h4 : itoa (decV l : Int) ≠ l) : rdDec l = none := by
  rw [rdDec, if_neg]
  rintro ⟨_, h5, h2, h6, _⟩
  exact h4 (by rw [itoa_pos]; exact digits_back _ l rfl h5 h2 h6)

theorem rdDec_long {l : List UInt8} (h : ¬ l.length ≤ 10) : rdDec l = none := by rw [rdDec, if_neg (fun x => h x.1)]
theorem rdDec_none {l : List UInt8} (h : l = []) : rdDec l = none := by rw [rdDec, if_neg (fun x => x.2.1 h)]
theorem rdDec_bad {l : List UInt8} (h : l.all digB ≠ true) : rdDec l = none := by rw [rdDec, if_neg (fun x => h x.2.2.1)]
theorem rdDec_lead {l : List UInt8} (h : l.head? = some 48 ∧ 1 < l.length) : rdDec l = none := by rw [rdDec, if_neg (fun x => x.2.2.2.1 h)]
theorem rdDec_big {l : List UInt8} (h : ¬ decV l ≤ 1000000000) : rdDec l = none := by rw [rdDec, if_neg (fun x => h x.2.2.2.2)]

theorem decV_lt : ∀ (n : Nat) (l : List UInt8), l.length = n → l.all digB = true → decV l < 10 ^ n := by
  intro n
  induction n with
  | zero => intro l hl _; rw [List.length_eq_zero_iff.1 hl]; simp [decV]
  | succ n ih =>
    intro l hl hall
    rcases List.eq_nil_or_concat l with e | ⟨p, c, e⟩
    · subst e; simp at hl
    · rw [List.concat_eq_append] at e
      subst e
      have hc : digB c = true := List.all_eq_true.1 hall c (by simp)
      have hc2 : 48 ≤ c.toNat ∧ c.toNat ≤ 57 := of_decide_eq_true hc
      have hall2 : p.all digB = true := by
        rw [List.all_eq_true] at hall ⊢
        intro x hx
        exact hall x (by simp [hx])
      have := ih p (by simp at hl; omega) hall2
      rw [decV_snoc, Nat.pow_succ]
      omega

theorem pow_le10 {k : Nat} (h : k ≤ 10) : 10 ^ k ≤ 10000000000 := Nat.pow_le_pow_right (n := 10) (by omega) h

/-- At the head of a round of spec.ReadDecimal. -/
structure DInv (s : ByteArray) (k n : Nat) : Prop where
  le : k ≤ s.size
  all : (s.data.toList.take k).all digB = true
  eq : n = decV (s.data.toList.take k)

theorem DInv.start (s : ByteArray) : DInv s 0 0 := ⟨Nat.zero_le _, by simp, by simp [decV]⟩
theorem DInv.bound {s : ByteArray} {k n : Nat} (h : DInv s k n) (hk : k ≤ 10) : n ≤ 10000000000 := by
  have hl : (s.data.toList.take k).length = k := by
    have := h.le
    simp
    have e : s.data.size = s.size := rfl
    omega
  have := decV_lt k _ hl h.all
  have := pow_le10 hk
  rw [h.eq]
  omega
theorem DInv.next {s : ByteArray} {k n : Nat} (h : DInv s k n) (hk : k < s.size) (h1 : 48 ≤ s[k].toNat) (h2 : s[k].toNat ≤ 57) : DInv s (k + 1) (10 * n + s[k].toNat - 48) := by
  refine ⟨hk, ?_, ?_⟩
  · rw [take_snoc s k hk, List.all_append, h.all]
    simp [digB, h1, h2]
  · rw [take_snoc s k hk, decV_snoc, ← h.eq]
    omega
theorem DInv.bad {s : ByteArray} {k n : Nat} (_h : DInv s k n) (hk : k < s.size) (h1 : ¬ (48 ≤ s[k].toNat ∧ s[k].toNat ≤ 57)) : rdDec s.data.toList = none := by
  apply rdDec_bad
  intro hall
  have := List.all_eq_true.1 hall s[k] (by rw [← List.take_append_drop (k + 1) s.data.toList, take_snoc s k hk]; simp)
  exact h1 (of_decide_eq_true this)
theorem DInv.whole {s : ByteArray} {k n : Nat} (h : DInv s k n) (hk : ¬ k < s.size) : s.data.toList.all digB = true ∧ n = decV s.data.toList := by
  have e := take_all s k hk
  exact ⟨by rw [← e]; exact h.all, by rw [← e]; exact h.eq⟩

/-- Of the values of figures. -/
theorem allV_10 : ∀ (l : List UInt8), (∀ vs, allV 10 l = some vs → l.all digB = true ∧ vs = l.map fun b => b.toNat - 48) ∧ (allV 10 l = none → l.all digB ≠ true)
  | [] => ⟨by simp [allV], by simp [allV]⟩
  | b :: r => by
    obtain ⟨ih1, ih2⟩ := allV_10 r
    by_cases hb : 48 ≤ b.toNat ∧ b.toNat ≤ 57
    · have hv : valB 10 b = some (b.toNat - 48) := by rw [valB_dig hb.1 hb.2, if_pos (by omega)]
      have hd : digB b = true := by simp [digB, hb.1, hb.2]
      simp only [allV, hv, Option.bind_some, List.all_cons, hd, Bool.true_and, List.map_cons]
      cases ha : allV 10 r with
      | none => exact ⟨by simp, fun _ => ih2 ha⟩
      | some us =>
        obtain ⟨h1, h2⟩ := ih1 us ha
        refine ⟨?_, by simp⟩
        intro vs hvs
        simp at hvs
        subst hvs
        exact ⟨h1, by rw [h2]⟩
    · have hd : digB b = false := by simp [digB]; omega
      have hv : valB 10 b = none := by
        by_cases h2 : 97 ≤ b.toNat ∧ b.toNat ≤ 102
        · rw [valB_let h2.1 h2.2, if_neg (by omega)]
        · exact valB_not hb h2
      simp [allV, hv, hd]

theorem valF_map : ∀ (l : List UInt8) (n : Nat), (l.map fun b => b.toNat - 48).foldl (fun n v => n * 10 + v) n = l.foldl (fun n b => 10 * n + (b.toNat - 48)) n
  | [], n => rfl
  | b :: r, n => by
    simp only [List.map_cons, List.foldl_cons]
    rw [valF_map r, Nat.mul_comm n 10]

theorem valF_lt : ∀ (n : Nat) (l : List Nat), l.length = n → (∀ v ∈ l, v < 10) → valF l < 10 ^ n := by
  intro n
  induction n with
  | zero => intro l hl _; rw [List.length_eq_zero_iff.1 hl]; simp [valF]
  | succ n ih =>
    intro l hl hall
    rcases List.eq_nil_or_concat l with e | ⟨p, c, e⟩
    · subst e; simp at hl
    · rw [List.concat_eq_append] at e
      subst e
      have hc := hall c (by simp)
      have := ih p (by simp at hl; omega) (fun v hv => hall v (by simp [hv]))
      rw [valF_snoc, Nat.pow_succ]
      omega

theorem said_other {s : ByteArray} {n : Nat} (hv : n = decV s.data.toList) (ht : (!itoa (n : Int) == s.toList) = true) : rdDec s.data.toList = none := by
  rw [ByteArray.toList_eq] at ht
  apply rdDec_other
  rw [← hv]
  intro e
  rw [e] at ht
  simp at ht
theorem said_same {s : ByteArray} {n : Nat} (hl : s.data.toList.length ≤ 10) (ha : s.data.toList.all digB = true) (hn : n ≤ 1000000000) (hv : n = decV s.data.toList) (ht : (!itoa (n : Int) == s.toList) = false) : rdDec s.data.toList = some n := by
  rw [ByteArray.toList_eq, Bool.not_eq_false', beq_iff_eq] at ht
  subst hv
  exact rdDec_same hl ha hn ht

/-- What impl.ReadDecimal comes to where it has values. -/
theorem vals_some {s : ByteArray} {vs : List Nat} (h : allV 10 s.data.toList = some vs) : s.data.toList.all digB = true ∧ valF vs = decV s.data.toList := by
  obtain ⟨h1, h2⟩ := (allV_10 s.data.toList).1 vs h
  refine ⟨h1, ?_⟩
  rw [h2]
  exact valF_map _ _
theorem vals_none {s : ByteArray} (h : allV 10 s.data.toList = none) : rdDec s.data.toList = none := rdDec_bad ((allV_10 s.data.toList).2 h)

theorem valF_take {vs : List Nat} {k : Nat} (h : k < vs.length) : valF (vs.take (k + 1)) = valF (vs.take k) * 10 + vs[k] := by
  rw [List.take_succ_eq_append_getElem h, valF_snoc]
theorem valF_bound {vs : List Nat} {k : Nat} (hk : k ≤ 10) (hl : k ≤ vs.length) (hv : ∀ v ∈ vs, v < 10) : valF (vs.take k) ≤ 10000000000 := by
  have := valF_lt k (vs.take k) (by simp; omega) (fun v hx => hv v (List.mem_of_mem_take hx))
  have := pow_le10 hk
  omega

theorem rdDec_yes {l : List UInt8} (h1 : l.length ≤ 10) (h2 : l ≠ []) (h3 : l.all digB = true) (h4 : ¬ (l.head? = some 48 ∧ 1 < l.length)) (h5 : decV l ≤ 1000000000) : rdDec l = some (decV l) := by
  rw [rdDec, if_pos ⟨h1, h2, h3, h4, h5⟩]

theorem head_at {s : ByteArray} (h : 0 < s.size) : s.data.toList.head? = some s[0] := by
  have := drop_at s 0 h
  rw [List.drop_zero] at this
  rw [this]; rfl

theorem head_48 {s : ByteArray} (h : 0 < s.size) : (s.data.toList.head? = some 48) ↔ s[0].toNat = 48 := by
  rw [head_at h]
  constructor
  · intro e; rw [Option.some.inj e]; rfl
  · intro e; congr 1; apply UInt8.toNat_inj.1; rw [e]; rfl


end Go.Proofs.YtpienefbgpgdkaaDoor
