/-
  The walk of spec.PartsOf.
-/
import Derived.Test.YtpienefbgpgdkalDoorPartsPure
import Derived.Test.YtpienefbgpgdkalDoorMark
namespace Go.Proofs.YtpienefbgpgdkalDoor
open Go.RowKit Go.Lib

theorem info9 : (Tryd.prog.info? 9).map (fun i => (i.zero, i.size, i.bytes)) = some (some (.string ByteArray.empty), 1, 16) := by kernel_rfl

def PEnd (s : ByteArray) (B : Nat) (e : Ending) (w' : World) : Prop :=
  ∃ v, e = .returned (.tuple #[v, .bool (partsR s.data.toList).isSome]) ∧ w'.ownsRow B 9 1 v ((partsR s.data.toList).getD []).length (strsV ((partsR s.data.toList).getD []))

theorem PEnd.none {s : ByteArray} {B : Nat} {e : Ending} {w' : World} (h : partsR s.data.toList = none) (v : Value) (he : e = .returned (.tuple #[v, .bool false])) (hv : w'.ownsRow B 9 1 v 0 []) : PEnd s B e w' :=
  ⟨v, by rw [h]; exact he, by rw [h]; exact hv⟩
theorem PEnd.some {s : ByteArray} {B : Nat} {e : Ending} {w' : World} {l : List (List UInt8)} (h : partsR s.data.toList = some l) (v : Value) (he : e = .returned (.tuple #[v, .bool true])) (hv : w'.ownsRow B 9 1 v l.length (strsV l)) : PEnd s B e w' :=
  ⟨v, by rw [h]; exact he, by rw [h]; exact hv⟩

theorem cut_seg (s : ByteArray) (b k : Nat) (h : b ≤ k) (hk : k ≤ s.size) (wx : World) :
    (Instr.slice 9 (.string s) (some (.int .i64 (b : Int))) (some (.int .i64 (k : Int))) none).run Tryd.prog wx = .ok (.string ⟨(seg s b k).toArray⟩) wx := by
  have := run_slice_string (P := Tryd.prog) wx 9 s .i64 .i64 (b : Int) (k : Int) Tryd.underlying9 (by omega) (by omega) (by omega)
  rw [← extract_seg]
  simpa using this

theorem one_text_cell (t : ByteArray) : ∀ u ∈ [Value.string t], u.oneCell' = true := by
  intro u hu; simp at hu; subst hu; rfl

/-- What one append of a text leaves. -/
theorem push_str {w wr w1 : World} {B : Nat} {v v' : Value} {out : List (List UInt8)} {o : Obj} {t : List UInt8} (hB : B ≤ wr.heap.size) (hbel : Below B w wr) (hown : wr.ownsRow B 9 1 v out.length (strsV out))
    (hown' : w1.ownsRow B 9 1 v' (out.length + 1) (strsV out ++ [Value.string ⟨t.toArray⟩])) (hgrow : (wr.alloc o).grownBy w1 v.ownBlock) :
    w1.ownsRow B 9 1 v' (out ++ [t]).length (strsV (out ++ [t])) ∧ Below B w w1 := by
  refine ⟨?_, (hbel.alloc hB o).grown hgrow (by simp; omega) (fun k hk => (hown.lt k hk).1)⟩
  have e : strsV (out ++ [t]) = strsV out ++ [Value.string ⟨t.toArray⟩] := by simp [strsV]
  rw [e, List.length_append]
  exact hown'

set_option maxHeartbeats 1600000 in
set_option maxRecDepth 100000 in
theorem sParts_any (s : ByteArray) (hs : s.size ≤ 1048576) (w : World) :
    Calls Tryd.prog 10 #[.string s] w fun e w' => PEnd s w.heap.size e w' ∧ Below w.heap.size w w' := by
  obtain ⟨i0, hi, hz0, hz1, hz2⟩ := info_parts info9
  have HLS : Hid (s.data.toList.length = s.size) := (show s.data.toList.length = s.size by simp)
  by_cases h6 : s.size ≤ 600
  · have h6' : ¬ (600 : Int) < (s.size : Int) := by omega
    go_enter Tryd.func10, Tryd.ntmps10
    go_wp2
    go_loopw [4, 5, 6] (fun v x i wr => ∃ (k b : Nat) (out : List (List UInt8)), x = .int .i64 (b : Int) ∧ i = .int .i64 (k : Int) ∧ PInv s k b out ∧ wr.ownsRow w.heap.size 9 1 v out.length (strsV out) ∧ Below w.heap.size w wr) (fun _ _ i _ => s.size + 1 - (RowKit.intOf i).toNat)
    case atStart => exact ⟨0, 0, [], rfl, rfl, PInv.start s, World.ownsRow_lit _ _ _ (Nat.le_refl _) (by simp [maxLen]) (by simp), (Below.refl _ _).alloc (Nat.le_refl _) _⟩
    case round =>
      obtain ⟨k, b, out, rfl, rfl, hinv, hown, hbel⟩ := hrel
      have hle := hinv.le
      have hlo := hinv.lo
      have hol := hinv.len
      have hsz := hbel.size
      have hm63 : out.length + 1 ≤ maxLen := by unfold maxLen; omega
      have hm47 : (out.length + 1) * 16 ≤ 140737488355328 := by omega
      by_cases hlt : k < s.size
      · have hlk : (k : Int) ≤ (s.size : Int) := by omega
        have hby : (s[k].toNat : Int) ≤ 255 := by have := s[k].toNat_lt; omega
        by_cases p1 : 32 ≤ s[k].toNat
        · have p1a : ¬ (s[k].toNat : Int) < 32 := by omega
          by_cases p2 : s[k].toNat ≤ 126
          · have p2a : ¬ (126 : Int) < (s[k].toNat : Int) := by omega
            have hpl : plB s[k] = true := by simp [plB, p1, p2]
            have HPL : Hid (plB s[k] = true) := hpl
            clear hpl
            by_cases h32 : s[k].toNat = 32
            · have HB := hinv.blank hlt HPL.out h32
              have h32a : ((s[k].toNat : Int) == 32) = true := by rw [beq_iff_eq]; omega
              clear h32
              by_cases hbk : b < k
              · have hn := HB.1 hbk
                have hbk' : (b : Int) < (k : Int) := by omega
                have hcut := cut_seg s b k hlo (by omega)
                clear HB
                go_wp2_with (at_builtin; refine wpList_append_own _ rfl _ _ 27 rfl w.heap.size 9 i0 (.string ByteArray.empty) 1 16 Tryd.underlying27 hi hz0 hz1 hz2 rfl (by decide) _ _ _ rfl (hown.alloc _) ⟨wr.heap.size, 0, none⟩ 1 1 [.string ⟨(seg s b k).toArray⟩] rfl rfl (cell_one_new _ _ _) (one_text_cell _) hm63 hm47 (room_for hsz _) ?_)
                intro v' w1 hown' hgrow _
                have R := push_str hsz hbel hown hown' hgrow
                clear hown' hgrow hown hcut
                go_wp2
                go_roundw
                case rel => exact ⟨k + 1, k + 1, _, by go_num, by go_num, hn, R.1, R.2⟩
                case measure => simp [RowKit.intOf]; omega
              · have hn := HB.2 hbk
                have hbk' : ¬ (b : Int) < (k : Int) := by omega
                clear HB
                go_wp2
                go_roundw
                case rel => exact ⟨k + 1, k + 1, _, by go_num, by go_num, hn, hown, hbel⟩
                case measure => simp [RowKit.intOf]; omega
            · have hn := hinv.letter hlt HPL.out h32
              have h32a : ((s[k].toNat : Int) == 32) = false := by rw [beq_eq_false_iff_ne]; omega
              go_wp2
              go_roundw
              case rel => exact ⟨k + 1, b, _, by go_num, by go_num, hn, hown, hbel⟩
              case measure => simp [RowKit.intOf]; omega
          · have p2a : (126 : Int) < (s[k].toNat : Int) := by omega
            have hbad := hinv.bad hlt (by simp [plB]; omega)
            have HBAD : Hid (partsR s.data.toList = none) := hbad
            clear hbad
            go_wp2
            go_ret2
            exact ⟨PEnd.none HBAD.out _ rfl (World.ownsRow_lit _ _ _ hsz (by simp [maxLen]) (by simp)), hbel.alloc hsz _⟩
        · have p1a : (s[k].toNat : Int) < 32 := by omega
          have hbad := hinv.bad hlt (by simp [plB]; omega)
          have HBAD : Hid (partsR s.data.toList = none) := hbad
          clear hbad
          go_wp2
          go_ret2
          exact ⟨PEnd.none HBAD.out _ rfl (World.ownsRow_lit _ _ _ hsz (by simp [maxLen]) (by simp)), hbel.alloc hsz _⟩
      · by_cases hke : k = s.size
        · subst hke
          have HB := hinv.last
          by_cases hbk : b < s.size
          · have hn := HB.1 hbk
            have hbk' : (b : Int) < (s.size : Int) := by omega
            have hcut := cut_seg s b s.size hlo (Nat.le_refl _)
            clear HB
            go_wp2_with (at_builtin; refine wpList_append_own _ rfl _ _ 27 rfl w.heap.size 9 i0 (.string ByteArray.empty) 1 16 Tryd.underlying27 hi hz0 hz1 hz2 rfl (by decide) _ _ _ rfl (hown.alloc _) ⟨wr.heap.size, 0, none⟩ 1 1 [.string ⟨(seg s b s.size).toArray⟩] rfl rfl (cell_one_new _ _ _) (one_text_cell _) hm63 hm47 (room_for hsz _) ?_)
            intro v' w1 hown' hgrow _
            have R := push_str hsz hbel hown hown' hgrow
            clear hown' hgrow hown hcut
            go_wp2
            go_roundw
            case rel => exact ⟨s.size + 1, s.size + 1, _, by go_num, by go_num, hn, R.1, R.2⟩
            case measure => simp [RowKit.intOf]
          · have hn := HB.2 hbk
            have hbk' : ¬ (b : Int) < (s.size : Int) := by omega
            clear HB
            go_wp2
            go_roundw
            case rel => exact ⟨s.size + 1, s.size + 1, _, by go_num, by go_num, hn, hown, hbel⟩
            case measure => simp [RowKit.intOf]
        · have hgt : s.size < k := by omega
          have hlk : ¬ (k : Int) ≤ (s.size : Int) := by omega
          obtain ⟨hall, hfl⟩ := hinv.whole hgt
          have HALL : Hid (s.data.toList.all plB = true) := hall
          have HFL : Hid (fields s.data.toList = out) := hfl
          clear hall hfl
          obtain ⟨ra, rc, hv⟩ := row_form hown
          subst hv
          by_cases h10 : out.length ≤ 10
          · have h10' : ¬ (10 : Int) < (out.length : Int) := by omega
            go_wp2
            go_ret2
            exact ⟨PEnd.some (partsR_yes (by rw [HLS.out]; exact h6) HALL.out (by rw [HFL.out]; exact h10)) _ rfl (by rw [HFL.out]; exact hown), hbel⟩
          · have h10' : (10 : Int) < (out.length : Int) := by omega
            go_wp2
            go_ret2
            exact ⟨PEnd.none (partsR_many (by rw [HFL.out]; exact h10)) _ rfl (World.ownsRow_lit _ _ _ hsz (by simp [maxLen]) (by simp)), hbel.alloc hsz _⟩
  · have h6' : (600 : Int) < (s.size : Int) := by omega
    go_enter Tryd.func10, Tryd.ntmps10
    go_wp2
    go_ret2
    exact ⟨PEnd.none (partsR_long (by rw [HLS.out]; exact h6)) _ rfl (World.ownsRow_lit _ _ _ (Nat.le_refl _) (by simp [maxLen]) (by simp)), (Below.refl _ _).alloc (Nat.le_refl _) _⟩

end Go.Proofs.YtpienefbgpgdkalDoor
