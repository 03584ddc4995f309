/-
  The walk of the specification's ReadPrefix: the rest.
  (-DROP-: what the seat lacks is left out.)
-/
import Derived.Test.YtengnjffajimdaaNibS6
namespace Go.Proofs.Ytengnjffajimdaa
open Go.RowKit

theorem zsV_oneC (l : List Int) : ∀ u ∈ zsV l, u.oneCell' = true := by
  intro u hu
  simp only [zsV, List.mem_map] at hu
  obtain ⟨x, _, rfl⟩ := hu
  rfl

set_option maxHeartbeats 1600000 in
set_option maxRecDepth 100000 in
theorem sRead_even (t : ByteArray) (hp : 0 < t.size) (h64 : t[0].toNat < 64) (h40 : t.size ≤ 40) (ho : ¬ t[0].toNat / 16 % 2 = 1) (w : World) :
    Calls Try.prog 14 #[.string t] w fun e w' => ∃ u, e = .returned (.tuple #[u, .bool (rdPb t), .bool (rdP t).isSome]) ∧ ZOwn w.heap.size w'.heap.size w' u (rdPl t) ∧ Below w.heap.size w w' := by
  obtain ⟨i0, hi, hz0, hz1, hz2⟩ := info_parts info3I
  have HM := rdP_main hp h64 h40
  have HM' : Hid _ := HM
  have hL : rdL t[0] (t.data.toList.drop 1) = nibs (t.extract 1 t.size) := by
    unfold rdL
    rw [if_neg ho, List.nil_append, nibs_tail]
  rw [hL] at HM'
  clear HM hL
  have CN : Hid (∀ W, Calls Try.prog 21 #[.string (t.extract 1 t.size)] W fun e w' => ∃ g c, e = .returned (.slice (some ⟨g, 0, none⟩) (nibs (t.extract 1 t.size)).length c) ∧ ZOwn W.heap.size w'.heap.size w' (.slice (some ⟨g, 0, none⟩) (nibs (t.extract 1 t.size)).length c) (nibs (t.extract 1 t.size)) ∧ Below W.heap.size W w') := fun W => sNib_any _ (by rw [ByteArray.size_extract]; omega) W
  have hne : ¬ t.toList = [] := fun h => by rw [no_bytes h] at hp; exact absurd hp (by decide)
  have h40' : ¬ (40 : Int) < (t.size : Int) := by omega
  have h64' : ¬ (64 : Int) ≤ (t[0].toNat : Int) := by omega
  have h1 : (1 : Int) ≤ (t.size : Int) := by omega
  have hne2 : t.toList.isEmpty = false := by
    cases h : t.toList.isEmpty
    · rfl
    · exact absurd (List.isEmpty_iff.1 h) hne
  have h64n : ¬ 64 ≤ t[0].toNat := by omega
  have h40n : ¬ 40 < t.size := by omega
  have ho3 : ((t[0].toNat : Int) / 16 % 2 == 1) = false := by rw [beq_eq_false_iff_ne]; omega
  have ho4 : ¬ ((t[0].toNat : Int) / 16 % 2 = 1) := by omega
  have ho2 : Int.tmod (Int.tdiv (t[0].toNat : Int) 16) 2 = 0 := by rw [Int.tdiv_eq_ediv_of_nonneg (by omega), Int.tmod_eq_emod_of_nonneg (by omega)]; omega
  have hb := t[0].toNat_lt
  have k1 : IntKind.u8.wrap (Int.tdiv (t[0].toNat : Int) 16) = Int.tdiv (t[0].toNat : Int) 16 := IntWalk.u8_in _ (by rw [Int.tdiv_eq_ediv_of_nonneg (by omega)]; omega)
  have hLL : (nibs (t.extract 1 t.size)).length ≤ 80 := by
    rw [nibs_tail, nibL_length, List.length_drop, Array.length_toList]
    have : t.data.size = t.size := rfl
    omega
  generalize hP : nibs (t.extract 1 t.size) = L at CN HM' hLL
  by_cases h32 : 32 ≤ t[0].toNat
  · have h32' : (32 : Int) ≤ (t[0].toNat : Int) := by omega
    have hlf : rdLeaf t[0] = true := decide_eq_true h32
    rw [hlf] at HM'
    clear hlf ho hP
    go_enter Try.func14, Try.ntmps14
    go_wp2_with fail
    refine (CN.out _).mono ?_
    rintro e w5 ⟨g, c, rfl, hz, hb5⟩
    have hE : ((w.alloc (.cells #[] 3)).alloc (.cells #[] 3)).ownsRow (w.heap.size + 1) 3 1 (.slice (some ⟨w.heap.size + 1, 0, none⟩) 0 0) 0 [] := by
      have h := World.ownsRow_lit (base := (w.alloc (.cells #[] 3)).heap.size) (e := 3) (size := 1) (w.alloc (.cells #[] 3)) #[] 0 (Nat.le_refl _) (by simp [maxLen]) (by simp)
      simpa using h
    have hs2 : ((w.alloc (.cells #[] 3)).alloc (.cells #[] 3)).heap.size = w.heap.size + 2 := by simp
    have HB2 : Below w.heap.size w ((w.alloc (.cells #[] 3)).alloc (.cells #[] 3)) := ((Below.refl _ _).alloc (Nat.le_refl _) _).alloc (by simp) _
    have hZ0 : ZOwn w.heap.size (w.heap.size + 1) ((w.alloc (.cells #[] 3)).alloc (.cells #[] 3)) (.slice (some ⟨w.heap.size, 0, none⟩) 0 0) [] := by
      have h := World.ownsRow_lit (base := w.heap.size) (e := 3) (size := 1) w #[] 0 (Nat.le_refl _) (by simp [maxLen]) (by simp)
      exact ⟨h.alloc _, fun k hk => by have e1 : some w.heap.size = some k := hk; injection e1 with e1; omega⟩
    generalize ((w.alloc (.cells #[] 3)).alloc (.cells #[] 3)) = W2 at *
    have hE5 := owns_on hE hb5
    have hZ5 := hZ0.on hb5 (by omega)
    have hnews : ∀ j u, (zsV L)[j]? = some u → w5.cell? ((⟨g, 0, none⟩ : Addr).add j) = some u := fun j u hu => by
      have hj : j < (zsV L).length := (List.getElem?_eq_some_iff.1 hu).1
      rw [Addr.add_lit, Nat.zero_add, hz.1.cellAt j (by simpa [zsV] using hj)]
      exact hu
    have hs5 : w.heap.size + 2 ≤ w5.heap.size := by have := hb5.size; omega
    have HB5 : Hid (Below w.heap.size w w5) := below_then HB2 hb5
    have HN5 : Hid (∀ j u, (zsV L)[j]? = some u → w5.cell? ((⟨g, 0, none⟩ : Addr).add j) = some u) := hnews
    clear hnews hz hb5 HB2 hE hZ0 CN ho2 ho3 ho4 k1 hb
    go_wp2_with (at_builtin; refine wpList_append_own _ rfl _ _ 24 rfl (w.heap.size + 1) 3 i0 (.int .i64 0) 1 8 Try.underlying24 hi hz0 hz1 hz2 rfl (by decide) _ _ _ rfl hE5 ⟨g, 0, none⟩ L.length c (zsV L) rfl (by simp [zsV]) HN5.out (zsV_oneC _) (by unfold maxLen; omega) (by omega) (by omega) ?_)
    intro v6 w6 hown6 hg6 _
    have HR6 : RowZs (w.heap.size + 1) w6 v6 L := by
      unfold RowZs
      simpa using hown6
    have HB6 : Below w.heap.size w w6 := HB5.out.grown hg6 (by omega) (fun k hk => by have := (hE5.lt k hk).1; omega)
    have hs6 : w.heap.size + 2 ≤ w6.heap.size := by have := hg6.size; omega
    obtain ⟨va, vc, hv⟩ := row_form HR6
    subst hv
    have HU6 : Hid (ZOwn w.heap.size w6.heap.size w6 (.slice va L.length vc) L) := (ZOwn.of HR6).wide (by omega) (Nat.le_refl _)
    have HP6 := sPrefix_any _ L true (by omega) w6 HU6.out.at
    have HBz : Hid (Below w.heap.size w w6 ∧ ZOwn w.heap.size (w.heap.size + 1) w6 (.slice (some ⟨w.heap.size, 0, none⟩) 0 0) []) := ⟨HB6, hZ5.same (Same.of_grown hg6 (by omega) (fun k h1 h2 e => by have := (hE5.lt k e).1; omega))⟩
    clear hown6 hg6 HR6 HB6 hE5 hZ5 HN5 HB5
    go_wp2_with fail
    refine HP6.mono ?_
    rintro e w7 ⟨rfl, hb7⟩
    have HU7 : Hid (ZOwn w.heap.size w7.heap.size w7 (.slice va L.length vc) L) := (HU6.out.on hb7 (Nat.le_refl _)).wide (Nat.le_refl _) hb7.size
    have hs7 : w.heap.size + 1 ≤ w7.heap.size := by have h1 := hb7.size; have h2 := HBz.out.1.size; omega
    have HZ7 : Hid (ZOwn w.heap.size w7.heap.size w7 (.slice (some ⟨w.heap.size, 0, none⟩) 0 0) [] ∧ Below w.heap.size w w7) := ⟨(HBz.out.2.on hb7 (by have h1 := HBz.out.1.size; omega)).wide (Nat.le_refl _) hs7, below_then HBz.out.1 hb7⟩
    clear HP6 HBz HU6 hb7
    cases hok : nibOk L
    · have hR := rd_none (HM'.out.2 (by rw [hok]; rintro ⟨h, _⟩; cases h))
      have HR : Hid (rdPb t = false ∧ (rdP t).isSome = false ∧ rdPl t = []) := hR
      generalize preT L true = T at *
      clear hR hok
      go_wp2
      go_ret3
      refine ⟨_, by rw [HR.out.1, HR.out.2.1]; rfl, ?_, HZ7.out.2⟩
      rw [HR.out.2.2]
      exact HZ7.out.1
    · by_cases hT : preT L true = t
      · have hR := rd_some (HM'.out.1 ⟨hok, hT⟩)
        have HR : Hid (rdPb t = true ∧ (rdP t).isSome = true ∧ rdPl t = L) := hR
        rw [hT]
        have htt : (t.toList == t.toList) = true := beq_self_eq_true _
        clear hR hok hT
        go_wp2
        go_ret3
        refine ⟨_, by rw [HR.out.1, HR.out.2.1]; rfl, ?_, HZ7.out.2⟩
        rw [HR.out.2.2]
        exact HU7.out
      · have hR := rd_none (HM'.out.2 (fun h => hT h.2))
        have HR : Hid (rdPb t = false ∧ (rdP t).isSome = false ∧ rdPl t = []) := hR
        generalize preT L true = T at *
        have htt : (T.toList == t.toList) = false := beq_eq_false_iff_ne.2 fun e => hT (same_bytes e)
        clear hR hok
        go_wp2
        go_ret3
        refine ⟨_, by rw [HR.out.1, HR.out.2.1]; rfl, ?_, HZ7.out.2⟩
        rw [HR.out.2.2]
        exact HZ7.out.1
  · have h32' : ¬ (32 : Int) ≤ (t[0].toNat : Int) := by omega
    have hlf : rdLeaf t[0] = false := decide_eq_false h32
    rw [hlf] at HM'
    clear hlf ho hP
    go_enter Try.func14, Try.ntmps14
    go_wp2_with fail
    refine (CN.out _).mono ?_
    rintro e w5 ⟨g, c, rfl, hz, hb5⟩
    have hE : ((w.alloc (.cells #[] 3)).alloc (.cells #[] 3)).ownsRow (w.heap.size + 1) 3 1 (.slice (some ⟨w.heap.size + 1, 0, none⟩) 0 0) 0 [] := by
      have h := World.ownsRow_lit (base := (w.alloc (.cells #[] 3)).heap.size) (e := 3) (size := 1) (w.alloc (.cells #[] 3)) #[] 0 (Nat.le_refl _) (by simp [maxLen]) (by simp)
      simpa using h
    have hs2 : ((w.alloc (.cells #[] 3)).alloc (.cells #[] 3)).heap.size = w.heap.size + 2 := by simp
    have HB2 : Below w.heap.size w ((w.alloc (.cells #[] 3)).alloc (.cells #[] 3)) := ((Below.refl _ _).alloc (Nat.le_refl _) _).alloc (by simp) _
    have hZ0 : ZOwn w.heap.size (w.heap.size + 1) ((w.alloc (.cells #[] 3)).alloc (.cells #[] 3)) (.slice (some ⟨w.heap.size, 0, none⟩) 0 0) [] := by
      have h := World.ownsRow_lit (base := w.heap.size) (e := 3) (size := 1) w #[] 0 (Nat.le_refl _) (by simp [maxLen]) (by simp)
      exact ⟨h.alloc _, fun k hk => by have e1 : some w.heap.size = some k := hk; injection e1 with e1; omega⟩
    generalize ((w.alloc (.cells #[] 3)).alloc (.cells #[] 3)) = W2 at *
    have hE5 := owns_on hE hb5
    have hZ5 := hZ0.on hb5 (by omega)
    have hnews : ∀ j u, (zsV L)[j]? = some u → w5.cell? ((⟨g, 0, none⟩ : Addr).add j) = some u := fun j u hu => by
      have hj : j < (zsV L).length := (List.getElem?_eq_some_iff.1 hu).1
      rw [Addr.add_lit, Nat.zero_add, hz.1.cellAt j (by simpa [zsV] using hj)]
      exact hu
    have hs5 : w.heap.size + 2 ≤ w5.heap.size := by have := hb5.size; omega
    have HB5 : Hid (Below w.heap.size w w5) := below_then HB2 hb5
    have HN5 : Hid (∀ j u, (zsV L)[j]? = some u → w5.cell? ((⟨g, 0, none⟩ : Addr).add j) = some u) := hnews
    clear hnews hz hb5 HB2 hE hZ0 CN ho2 ho3 ho4 k1 hb
    go_wp2_with (at_builtin; refine wpList_append_own _ rfl _ _ 24 rfl (w.heap.size + 1) 3 i0 (.int .i64 0) 1 8 Try.underlying24 hi hz0 hz1 hz2 rfl (by decide) _ _ _ rfl hE5 ⟨g, 0, none⟩ L.length c (zsV L) rfl (by simp [zsV]) HN5.out (zsV_oneC _) (by unfold maxLen; omega) (by omega) (by omega) ?_)
    intro v6 w6 hown6 hg6 _
    have HR6 : RowZs (w.heap.size + 1) w6 v6 L := by
      unfold RowZs
      simpa using hown6
    have HB6 : Below w.heap.size w w6 := HB5.out.grown hg6 (by omega) (fun k hk => by have := (hE5.lt k hk).1; omega)
    have hs6 : w.heap.size + 2 ≤ w6.heap.size := by have := hg6.size; omega
    obtain ⟨va, vc, hv⟩ := row_form HR6
    subst hv
    have HU6 : Hid (ZOwn w.heap.size w6.heap.size w6 (.slice va L.length vc) L) := (ZOwn.of HR6).wide (by omega) (Nat.le_refl _)
    have HP6 := sPrefix_any _ L false (by omega) w6 HU6.out.at
    have HBz : Hid (Below w.heap.size w w6 ∧ ZOwn w.heap.size (w.heap.size + 1) w6 (.slice (some ⟨w.heap.size, 0, none⟩) 0 0) []) := ⟨HB6, hZ5.same (Same.of_grown hg6 (by omega) (fun k h1 h2 e => by have := (hE5.lt k e).1; omega))⟩
    clear hown6 hg6 HR6 HB6 hE5 hZ5 HN5 HB5
    go_wp2_with fail
    refine HP6.mono ?_
    rintro e w7 ⟨rfl, hb7⟩
    have HU7 : Hid (ZOwn w.heap.size w7.heap.size w7 (.slice va L.length vc) L) := (HU6.out.on hb7 (Nat.le_refl _)).wide (Nat.le_refl _) hb7.size
    have hs7 : w.heap.size + 1 ≤ w7.heap.size := by have h1 := hb7.size; have h2 := HBz.out.1.size; omega
    have HZ7 : Hid (ZOwn w.heap.size w7.heap.size w7 (.slice (some ⟨w.heap.size, 0, none⟩) 0 0) [] ∧ Below w.heap.size w w7) := ⟨(HBz.out.2.on hb7 (by have h1 := HBz.out.1.size; omega)).wide (Nat.le_refl _) hs7, below_then HBz.out.1 hb7⟩
    clear HP6 HBz HU6 hb7
    cases hok : nibOk L
    · have hR := rd_none (HM'.out.2 (by rw [hok]; rintro ⟨h, _⟩; cases h))
      have HR : Hid (rdPb t = false ∧ (rdP t).isSome = false ∧ rdPl t = []) := hR
      generalize preT L false = T at *
      clear hR hok
      go_wp2
      go_ret3
      refine ⟨_, by rw [HR.out.1, HR.out.2.1]; rfl, ?_, HZ7.out.2⟩
      rw [HR.out.2.2]
      exact HZ7.out.1
    · by_cases hT : preT L false = t
      · have hR := rd_some (HM'.out.1 ⟨hok, hT⟩)
        have HR : Hid (rdPb t = false ∧ (rdP t).isSome = true ∧ rdPl t = L) := hR
        rw [hT]
        have htt : (t.toList == t.toList) = true := beq_self_eq_true _
        clear hR hok hT
        go_wp2
        go_ret3
        refine ⟨_, by rw [HR.out.1, HR.out.2.1]; rfl, ?_, HZ7.out.2⟩
        rw [HR.out.2.2]
        exact HU7.out
      · have hR := rd_none (HM'.out.2 (fun h => hT h.2))
        have HR : Hid (rdPb t = false ∧ (rdP t).isSome = false ∧ rdPl t = []) := hR
        generalize preT L false = T at *
        have htt : (T.toList == t.toList) = false := beq_eq_false_iff_ne.2 fun e => hT (same_bytes e)
        clear hR hok
        go_wp2
        go_ret3
        refine ⟨_, by rw [HR.out.1, HR.out.2.1]; rfl, ?_, HZ7.out.2⟩
        rw [HR.out.2.2]
        exact HZ7.out.1

end Go.Proofs.Ytengnjffajimdaa
