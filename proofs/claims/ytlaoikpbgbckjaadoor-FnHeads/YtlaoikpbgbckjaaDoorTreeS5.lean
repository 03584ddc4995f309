/-
  The walks of the specification's tree of hashes: the branch of a leaf.
  (-DROP-: what the seat lacks is left out.)
-/
import Derived.Test.YtlaoikpbgbckjaaDoorJoined37
namespace Go.Proofs.YtlaoikpbgbckjaaDoor
open Go.RowKit

/-- The place beside. -/
def beside (i : Nat) : Nat := if i % 2 = 1 then i - 1 else i + 1
theorem beside_xor {i : Nat} (h : i < 32) : bits .xor .i64 (i : Int) 1 = ((beside i : Nat) : Int) := by
  have key : ∀ i : Fin 32, bits .xor .i64 (i.val : Int) 1 = ((beside i.val : Nat) : Int) := by decide
  exact key ⟨i, h⟩
theorem up_half (D : ByteArray → ByteArray) {l : List ByteArray} {k : Nat} (h : l.length = 2 ^ (k + 1)) : (upL D l).length = 2 ^ k ∧ (upL D l).length < l.length := by
  have hp : 0 < 2 ^ k := Nat.pow_pos (by decide)
  rw [upL_length, h, Nat.pow_succ]
  omega
theorem half_lt {m k : Nat} (h : m < 2 ^ (k + 1)) : m / 2 < 2 ^ k := by
  rw [Nat.pow_succ] at h
  omega
theorem br_next (D : ByteArray → ByteArray) (k : Nat) (l : List ByteArray) (i : Nat) : brL D (k + 1) l i = l.getD (beside i) noT :: brL D k (upL D l) (i / 2) := rfl

/-- What the loop of the branch needs. -/
structure BrAt (w wr : World) (o u : Value) (br l : List ByteArray) (j i : Nat) (RES : List ByteArray) : Prop where
  out : RowS w.heap.size wr o br
  now : RowS w.heap.size wr u l
  apart : o.ownBlock = none ∨ o.ownBlock ≠ u.ownBlock
  bel : Below w.heap.size w wr
  len : l.length = 2 ^ j
  few : br.length + j ≤ 5
  lt : i < 2 ^ j
  res : RES = br ++ brL digT j l i
  sizes : ∀ k, k < l.length → (l.getD k noT).size ≤ 1048576

set_option maxHeartbeats 1600000 in
set_option maxRecDepth 100000 in
theorem sBranch_any (a : Option Addr) (n cp : Nat) (hm : n ≤ 9223372036854775807) (i : Int) (f : Nat → ByteArray) (hs : ∀ j, j < n → (f j).size ≤ 1048576) (w : World) (hA : StrsAt w a n w.heap.size f) :
    Calls Tryd.prog 14 #[.slice a n cp, .int .i64 i] w fun e w' => ∃ v, e = .returned v ∧ RowS w.heap.size w' v (branchT digT (lst f n) i) ∧ Below w.heap.size w w' := by
  obtain ⟨i0, hi, hz0, hz1, hz2⟩ := info_parts info9T
  by_cases hn : n ≤ 32
  · have hn' : ¬ (32 : Int) < (n : Int) := by omega
    have hnw : IntKind.i64.wrap ((n : Int) - 1) = (n : Int) - 1 := IntWalk.i64_in _ (by omega)
    have HI : Hid (∀ w, Calls Tryd.prog 37 #[.int .i64 i, .int .i64 0, .int .i64 ((n : Int) - 1)] w fun e w' => e = .returned (.bool (decide (0 ≤ i ∧ i ≤ (n : Int) - 1))) ∧ w = w') := sBetween_any i 0 _
    by_cases hin : 0 ≤ i ∧ i ≤ (n : Int) - 1
    · rw [decide_eq_true hin] at HI
      obtain ⟨m, rfl⟩ : ∃ m : Nat, i = (m : Int) := ⟨i.toNat, by omega⟩
      have hb0 : Below w.heap.size w (w.alloc (.cells #[] 9)) := (Below.refl _ _).alloc (Nat.le_refl _) _
      have HH : Hid (Calls Tryd.prog 38 #[.slice a n cp] (w.alloc (.cells #[] 9)) fun e w' => ∃ v, e = .returned v ∧ RowS (w.heap.size + 1) w' v (hashL digT (lst f n)) ∧ Below (w.heap.size + 1) (w.alloc (.cells #[] 9)) w') := by
        have h := sHashes_any a n cp hn f hs (w.alloc (.cells #[] 9)) ((hA.on hb0).wide hb0.size)
        rw [World.size_alloc] at h
        exact h
      have HL : Hid ((hashL digT (lst f n)).length = 2 ^ lvN n) := by
        have := hashL_length (D := digT) (l := lst f n) (by rw [lst_length]; exact hn)
        rw [lst_length] at this
        exact this
      have HS : Hid (∀ j, j < (hashL digT (lst f n)).length → ((hashL digT (lst f n)).getD j noT).size ≤ 1048576) := hash_sizes _
      have HR : Hid (branchT digT (lst f n) (m : Int) = brL digT (lvN n) (hashL digT (lst f n)) m) := by
        show branchT digT (lst f n) (m : Int) = _
        unfold branchT
        rw [lst_length, if_pos ⟨hn, by omega, by omega⟩]
        rfl
      have hL5 := lvN_le n
      have HM : Hid (m < 2 ^ lvN n) := Nat.lt_of_lt_of_le (by omega) (lvN_pow hn)
      generalize hashL digT (lst f n) = H at HH HL HS HR
      generalize branchT digT (lst f n) (m : Int) = RES at HR ⊢
      generalize lvN n = L at HL HR hL5 HM
      clear hA hs hin
      go_enter Tryd.func14, Tryd.ntmps14
      go_wp2_with fail
      refine (HI.out _).mono ?_
      rintro e w1 ⟨rfl, rfl⟩
      go_wp2_with fail
      refine HH.out.mono ?_
      rintro e w1 ⟨v1, rfl, hR1, hb1⟩
      have H0 : Hid (BrAt w w1 (.slice (some ⟨w.heap.size, 0, none⟩) 0 0) v1 [] H L m RES) := by
        have hbb : Below w.heap.size w w1 := hb0.trans (hb1.mono (by omega))
        have ho : RowS w.heap.size (w.alloc (.cells #[] 9)) (.slice (some ⟨w.heap.size, 0, none⟩) 0 0) [] := World.ownsRow_lit _ _ _ (Nat.le_refl _) (by simp [maxLen]) (by simp)
        refine ⟨?_, owns_wide hR1 (by omega), ?_, hbb, HL.out, by simpa using hL5, HM.out, HR.out, HS.out⟩
        · exact owns_on (w := w.alloc (.cells #[] 9)) ho (by rw [World.size_alloc]; exact hb1)
        · cases h : v1.ownBlock with
          | none => exact .inr (by simp [Value.ownBlock])
          | some k =>
            have := (hR1.lt k h).1
            refine .inr ?_
            simp [Value.ownBlock]
            omega
      clear hR1 hb1 HL HR HS HH HI HM hb0
      go_wp2
      go_loopw [1, 5, 6] (fun i o v wr => ∃ (o2 u : Value) (br l : List ByteArray) (j m : Nat), o2 = o ∧ u = v ∧ i = .int .i64 (m : Int) ∧ Hid (BrAt w wr o2 u br l j m RES)) (fun _ _ v _ => slLen v)
      case atStart => exact ⟨_, _, [], H, L, m, rfl, rfl, rfl, H0⟩
      case round =>
        obtain ⟨o, u, br, l, j, m, rfl, rfl, rfl, HD⟩ := hrel
        clear H0
        obtain ⟨a2, cp2, hu, hstr⟩ := HD.out.now.strs
        have HU : Hid (u = .slice a2 l.length cp2) := hu
        have HS : Hid (StrsAt wr a2 l.length wr.heap.size (fun j => l.getD j noT)) := hstr
        clear hu hstr
        have hlen := HD.out.len
        have hlnf : ∀ w, (Builtin.len_ #[33] 3 #[u]).run Tryd.prog w = .ok (.int .i64 (l.length : Int)) w := fun w => by rw [HU.out]; exact len_texts _ _ _ _ w
        by_cases h0 : j = 0
        · subst h0
          have hone : l.length = 1 := hlen
          have HE : Hid (RowS w.heap.size wr o RES) := by
            show RowS w.heap.size wr o RES
            rw [HD.out.res]
            show RowS w.heap.size wr o (br ++ [])
            rw [List.append_nil]
            exact HD.out.out
          have hB := HD.out.bel
          rw [hone] at hlnf
          clear HD HS hlen HU
          go_wp2
          go_ret
          exact ⟨_, rfl, HE.out, hB⟩
        · obtain ⟨k, rfl⟩ : ∃ k, j = k + 1 := ⟨j - 1, by omega⟩
          have hp : 2 ^ (k + 1) ≤ 32 := by
            have : 2 ^ (k + 1) ≤ 2 ^ 5 := Nat.pow_le_pow_right (by decide) (by have := HD.out.few; omega)
            omega
          have hp2 : 0 < 2 ^ k := Nat.pow_pos (by decide)
          have hps : 2 ^ (k + 1) = 2 * 2 ^ k := by rw [Nat.pow_succ]; omega
          have hm2 := HD.out.lt
          have hbs : beside m < l.length := by rw [hlen]; unfold beside; split <;> omega
          have hgt : (1 : Int) < (l.length : Int) := by omega
          obtain ⟨b, off, hae, hb, hz1'⟩ := HS.out (beside m) hbs
          subst hae
          have hz : wr.cell? ⟨b, off + beside m, none⟩ = some (.string (l.getD (beside m) noT)) := hz1'
          clear hz1'
          have hx := beside_xor (i := m) (by omega)
          have hbi : ((beside m : Nat) : Int) < (l.length : Int) := by omega
          have hb0 : (0 : Int) ≤ ((beside m : Nat) : Int) := by omega
          have hown := HD.out.out
          have hm63 : br.length + 1 ≤ maxLen := by have := HD.out.few; unfold maxLen; omega
          have hm47 : (br.length + 1) * 16 ≤ 140737488355328 := by have := HD.out.few; omega
          have hqt : Int.tdiv (m : Int) 2 = ((m / 2 : Nat) : Int) := by rw [Int.tdiv_eq_ediv_of_nonneg (by omega)]; omega
          have hww : wrap64 ((m : Int) / 2) = ((m / 2 : Nat) : Int) := by
            rw [IntWalk.wrap64_in _ (by omega)]
            omega
          have hsz : w.heap.size ≤ wr.heap.size := HD.out.bel.size
          have hfew := HD.out.few
          have hf1 : br.length + 1 + k ≤ 5 := by omega
          have hf2 : m / 2 < 2 ^ k := half_lt hm2
          have hf3 := up_half digT (l := l) (k := k) hlen
          have HF : Hid (br.length + 1 + k ≤ 5 ∧ m / 2 < 2 ^ k ∧ (upL digT l).length = 2 ^ k ∧ (upL digT l).length < l.length) := And.intro hf1 (And.intro hf2 hf3)
          clear hfew hf1 hf2 hf3
          have HRS : Hid (RES = (br ++ [l.getD (beside m) noT]) ++ brL digT k (upL digT l) (m / 2)) := by
            show RES = _
            rw [HD.out.res, br_next, List.append_assoc, List.singleton_append]
          have HUP : Hid (∀ w7, RowS w.heap.size w7 u l → StrsAt w7 (some ⟨b, off, none⟩) l.length w7.heap.size (fun j => l.getD j noT) → Calls Tryd.prog 39 #[u] w7 fun e w' => ∃ v, e = .returned v ∧ RowS w7.heap.size w' v (upL digT l) ∧ Below w7.heap.size w7 w') := fun w7 _ h7 => by
            have h := sUp_any (some ⟨b, off, none⟩) l.length cp2 (by omega) (fun j => l.getD j noT) HD.out.sizes w7 h7
            rw [lst_getD] at h
            rw [HU.out]
            exact h
          have HZ : Hid (∀ j, j < (upL digT l).length → ((upL digT l).getD j noT).size ≤ 1048576) := up_size
          have HM : Hid (slLen u = l.length) := rowS_len HD.out.now
          generalize l.getD (beside m) noT = d at hz HRS
          generalize upL digT l = l2 at HUP HF HRS HZ
          generalize beside m = bs at hx hbi hb0 hz hbs
          clear hlen hps hp hp2 hm2 hbs
          obtain ⟨lu, hlu⟩ : ∃ lu, lu = l.length := ⟨_, rfl⟩
          have HLU : Hid (lu = l.length) := hlu
          rw [← hlu] at hgt hbi hlnf
          have HU2 : Hid (u = .slice (some ⟨b, off, none⟩) lu cp2) := by show u = _; rw [hlu]; exact HU.out
          clear hlu HU
          have hu2 := HU2.out
          subst hu2
          clear HU2 hlnf
          have HN : Hid (RowS w.heap.size wr (.slice (some ⟨b, off, none⟩) lu cp2) l) := HD.out.now
          have HAP : Hid (o.ownBlock ≠ some b) := by
            rcases HD.out.apart with h | h
            · show o.ownBlock ≠ some b
              rw [h]; simp
            · exact h
          have HB : Hid (Below w.heap.size w wr) := HD.out.bel
          clear HD HS hb
          go_wp2_with (at_builtin; refine wpList_append_own _ rfl _ _ 33 rfl w.heap.size 9 i0 (.string ⟨#[]⟩) 1 16 Tryd.underlying33 hi hz0 hz1 hz2 rfl (by decide) _ _ _ rfl (hown.alloc _) ⟨wr.heap.size, 0, none⟩ 1 1 [.string d] rfl rfl (cell_one_new _ _ _) (one_str _) hm63 hm47 (room_for hsz _) ?_)
          intro v' w7 hown' hgrow _
          have H7 : Hid (RowS w.heap.size w7 v' (br ++ [d]) ∧ Below w.heap.size w w7) := ⟨RowS.push hown', (HB.out.alloc HB.out.size _).grown hgrow (by simp; omega) (fun k hk => (hown.lt k hk).1)⟩
          have hn7 : RowS w.heap.size w7 (.slice (some ⟨b, off, none⟩) lu cp2) l := World.ownsRow.kept (HN.out.alloc _) hgrow (.inr (fun e => HAP.out e.symm))
          have HUP7 : Hid (Calls Tryd.prog 39 #[.slice (some ⟨b, off, none⟩) lu cp2] w7 fun e w' => ∃ v, e = .returned v ∧ RowS w7.heap.size w' v l2 ∧ Below w7.heap.size w7 w') := by
            refine HUP.out w7 hn7 ?_
            obtain ⟨a3, cp3, e3, h3⟩ := hn7.strs
            cases e3
            exact h3
          clear hown' hgrow hown HB HN HAP hn7 HUP
          go_wp2_with fail
          refine HUP7.out.mono ?_
          rintro e w8 ⟨v2, rfl, hR2, hb2⟩
          have H8 : Hid (BrAt w w8 v' v2 (br ++ [d]) l2 k (m / 2) RES) := by
            refine ⟨owns_on H7.out.1 hb2, owns_wide hR2 H7.out.2.size, ?_, H7.out.2.trans (hb2.mono H7.out.2.size), HF.out.2.2.1, by rw [List.length_append]; exact HF.out.1, HF.out.2.1, HRS.out, HZ.out⟩
            cases h1 : v'.ownBlock with
            | none => exact .inl rfl
            | some k1 =>
              refine .inr ?_
              cases h2 : v2.ownBlock with
              | none => simp
              | some k2 =>
                have g1 := (World.ownsRow.lt H7.out.1 k1 h1).2
                have g2 := (World.ownsRow.lt hR2 k2 h2).1
                simp
                omega
          have HMS : Hid (slLen v2 < lu) := by
            show slLen v2 < lu
            rw [rowS_len hR2, HLU.out]
            exact HF.out.2.2.2
          clear H7 HUP7 hR2 hb2 HF HRS HZ
          go_wp2
          go_roundw
          case rel => exact ⟨v', v2, br ++ [d], l2, k, m / 2, rfl, rfl, by first | rfl | rw [hww], H8⟩
          case measure => exact HMS.out
    · rw [decide_eq_false hin] at HI
      have HR : Hid (branchT digT (lst f n) i = []) := by
        show branchT digT (lst f n) i = []
        unfold branchT
        rw [lst_length, if_neg (by omega)]
      generalize branchT digT (lst f n) i = RES at HR ⊢
      clear hA hs hin
      go_enter Tryd.func14, Tryd.ntmps14
      go_wp2_with fail
      refine (HI.out _).mono ?_
      rintro e w1 ⟨rfl, rfl⟩
      go_wp2
      go_ret
      exact ⟨_, rfl, by rw [HR.out]; exact World.ownsRow_lit _ _ _ (Nat.le_refl _) (by simp [maxLen]) (by simp), (Below.refl _ _).alloc (Nat.le_refl _) _⟩
  · have hn' : (32 : Int) < (n : Int) := by omega
    have HR : Hid (branchT digT (lst f n) i = []) := by
      show branchT digT (lst f n) i = []
      unfold branchT
      rw [lst_length, if_neg (by omega)]
    generalize branchT digT (lst f n) i = RES at HR ⊢
    clear hA hs
    go_enter Tryd.func14, Tryd.ntmps14
    go_wp2
    go_ret
    exact ⟨_, rfl, by rw [HR.out]; exact World.ownsRow_lit _ _ _ (Nat.le_refl _) (by simp [maxLen]) (by simp), (Below.refl _ _).alloc (Nat.le_refl _) _⟩

theorem branch_len (D : ByteArray → ByteArray) (l : List ByteArray) (i : Int) : (branchT D l i).length ≤ 5 := by
  unfold branchT
  split
  · rw [brL_length]; exact lvN_le _
  · exact Nat.zero_le _

theorem root_size {l : List ByteArray} (h : l.length ≤ 32) (h0 : 0 < l.length) : (rootT digT l).size = 32 := by
  obtain ⟨h1, h2⟩ := fold_branch (D := digT) h h0
  rw [← h1]
  unfold foldT
  have hb : (branchT digT l ((0 : Nat) : Int)).length ≤ 5 := branch_len _ _ _
  rw [if_pos ⟨hb, by omega, by
    have : (0 : Int) < 2 ^ (branchT digT l ((0 : Nat) : Int)).length := Int.pow_pos (by decide)
    simpa using this⟩]
  exact fold_size digT_size _ _ _ (digT_size _)

end Go.Proofs.YtlaoikpbgbckjaaDoor
