/-
  Texts of one's own, joined.
-/
import Derived.Test.YtmpjnabadplbjaaJoined3
import Derived.Test.YtmpjnabadplbjaaProg
import Derived.WalkKit

/-
  Items that are the same have the same text; an item is the same as itself.
-/
namespace Go.Proofs.Ytmpjnabadplbjaa

theorem zip_map {α β γ : Type} (f : α → γ) (g : β → γ) : ∀ (K : List α) (L : List β), K.length = L.length → (∀ p, p ∈ K.zip L → f p.1 = g p.2) → K.map f = L.map g
  | [], [], _, _ => rfl
  | x :: K, y :: L, h, hp => by
    rw [List.map_cons, List.map_cons, hp (x, y) (by simp), zip_map f g K L (by simpa using h) fun p hq => hp p (by simp [hq])]
  | [], _ :: _, h, _ => by cases h
  | _ :: _, [], h, _ => by cases h
theorem zip_all {α β : Type} (f : α → Bool) (g : β → Bool) (K : List α) (L : List β) (h : K.length = L.length) (hp : ∀ p, p ∈ K.zip L → f p.1 = g p.2) : K.all f = L.all g := by
  have h1 := zip_map f g K L h hp
  have h2 : ∀ l : List Bool, l.all id = l.all fun b => b := fun _ => rfl
  have h3 : (K.map f).all id = K.all f := by rw [List.all_map]; rfl
  have h4 : (L.map g).all id = L.all g := by rw [List.all_map]; rfl
  rw [← h3, ← h4, h1]
theorem sameD_parts {d e : Nat} {x : It (d + 1)} {y : It (e + 1)} (h : sameD (d + 1) (e + 1) x y = true) : itL x = itL y ∧ itT x = itT y ∧ (itK x).length = (itK y).length ∧ ∀ p, p ∈ (itK x).zip (itK y) → sameD d e p.1 p.2 = true := by
  rw [sameD] at h
  simp only [Bool.and_eq_true, decide_eq_true_eq] at h
  exact ⟨h.1, h.2.1, h.2.2.1, fun p hp => List.all_eq_true.1 h.2.2.2 p hp⟩
theorem same_ok : ∀ (d e : Nat) (x : It d) (y : It e), sameD d e x y = true → ∀ n, okD d n x = okD e n y
  | 0, _, x, _, _, _ => x.elim
  | _ + 1, 0, _, y, _, _ => y.elim
  | d + 1, e + 1, x, y, h, n => by
    obtain ⟨h1, h2, h3, h4⟩ := sameD_parts h
    rw [okD, okD, h1, h2, h3, zip_all (okD d (n + 1)) (okD e (n + 1)) _ _ h3 fun p hp => same_ok d e p.1 p.2 (h4 p hp) (n + 1)]
theorem same_text : ∀ (d e : Nat) (x : It d) (y : It e), sameD d e x y = true → textD d x = textD e y
  | 0, _, x, _, _ => x.elim
  | _ + 1, 0, _, y, _ => y.elim
  | d + 1, e + 1, x, y, h => by
    obtain ⟨h1, h2, h3, h4⟩ := sameD_parts h
    rw [textD, textD, h1, h2, zip_map (textD d) (textD e) _ _ h3 fun p hp => same_text d e p.1 p.2 (h4 p hp)]
theorem sameD_of {d e : Nat} {x : It (d + 1)} {y : It (e + 1)} (h1 : itL x = itL y) (h2 : itT x = itT y) (h3 : (itK x).length = (itK y).length) (h4 : ∀ p, p ∈ (itK x).zip (itK y) → sameD d e p.1 p.2 = true) : sameD (d + 1) (e + 1) x y = true := by
  rw [sameD]
  simp only [Bool.and_eq_true, decide_eq_true_eq]
  exact ⟨h1, h2, h3, List.all_eq_true.2 h4⟩
theorem mem_zip_self {α : Type} : ∀ (K : List α) (p : α × α), p ∈ K.zip K → p.1 = p.2
  | [], _, h => by cases h
  | x :: K, p, h => by
    rw [List.zip_cons_cons, List.mem_cons] at h
    rcases h with rfl | h
    · rfl
    · exact mem_zip_self K p h
theorem same_self : ∀ (d : Nat) (x : It d), sameD d d x x = true
  | 0, x => x.elim
  | d + 1, x => sameD_of rfl rfl rfl fun p hp => by
    rw [mem_zip_self _ p hp]
    exact same_self d p.2
theorem mem_turn {α β : Type} : ∀ (K : List α) (L : List β) (p : α × β), p ∈ K.zip L → (p.2, p.1) ∈ L.zip K
  | [], _, _, h => by rw [List.zip_nil_left] at h; cases h
  | _ :: _, [], _, h => by rw [List.zip_nil_right] at h; cases h
  | x :: K, y :: L, p, h => by
    rw [List.zip_cons_cons, List.mem_cons] at h ⊢
    rcases h with rfl | h
    · exact .inl rfl
    · exact .inr (mem_turn K L p h)
theorem same_turn : ∀ (d e : Nat) (x : It d) (y : It e), sameD d e x y = true → sameD e d y x = true
  | 0, _, x, _, _ => x.elim
  | _ + 1, 0, _, y, _ => y.elim
  | d + 1, e + 1, x, y, h => by
    obtain ⟨h1, h2, h3, h4⟩ := sameD_parts h
    refine sameD_of h1.symm h2.symm h3.symm fun p hp => ?_
    exact same_turn d e p.2 p.1 (h4 (p.2, p.1) (mem_turn _ _ p hp))

end Go.Proofs.Ytmpjnabadplbjaa

/-
  Rows of bytes.
  (-DROP-: what the seat lacks is left out.)
-/
namespace Go.Proofs.Ytmpjnabadplbjaa
open Go.RowKit

def bytesV (l : List UInt8) : List Value := l.map fun c => .int .u8 (c.toNat : Int)

theorem bytesV_append (a b : List UInt8) : bytesV (a ++ b) = bytesV a ++ bytesV b := by simp [bytesV]

theorem toNat_of {n : Nat} (h : n < 256) : (UInt8.ofNat n).toNat = n := by simp; omega

theorem bytesV_one {n : Nat} (h : n < 256) : bytesV [UInt8.ofNat n] = [.int .u8 (n : Int)] := by simp only [bytesV, List.map_cons, List.map_nil, toNat_of h]

theorem row_form {w : World} {B e sz n : Nat} {v : Value} {xs : List Value} (h : w.ownsRow B e sz v n xs) : ∃ a cap, v = .slice a n cap := by
  rcases h.2 with ⟨rfl, h0⟩ | ⟨g, cap, cur, rfl, _⟩
  · subst h0; exact ⟨_, _, rfl⟩
  · exact ⟨_, _, rfl⟩

theorem one_cell (k : IntKind) (z : Int) : ∀ u ∈ [Value.int k z], u.oneCell' = true := by
  intro u hu; simp at hu; subst hu; rfl

theorem room_for {B : Nat} {w : World} (h : B ≤ w.heap.size) (o : Obj) : B ≤ (w.alloc o).heap.size := by simp; omega

theorem cells_of_row {w : World} {B e g cap : Nat} {l : List UInt8} (h : w.ownsRow B e 1 (.slice (some ⟨g, 0, none⟩) l.length cap) l.length (bytesV l)) :
    ∀ j (hj : j < l.length), w.cell? ((⟨g, 0, none⟩ : Addr).add j) = some (.int .u8 (l[j].toNat : Int)) := fun j hj => by
  rw [Addr.add_lit, Nat.zero_add, h.cellAt j (by omega)]
  simp [bytesV, hj]

theorem info5 : (Try.prog.info? 5).map (fun i => (i.zero, i.size, i.bytes)) = some (some (.int .u8 0), 1, 1) := by kernel_rfl

theorem text_of_nil (w : World) : (convert 22 9 (.slice none 0 0)).run Try.prog w = .ok (.string ⟨#[]⟩) w := by
  rw [run_convert_bytes_string w 22 9 5 none 0 0 Try.underlying22 Try.underlying5 Try.underlying9]
  rfl

theorem text_of_row {w : World} {B : Nat} {v : Value} {l : List UInt8} (h : w.ownsRow B 5 1 v l.length (bytesV l)) :
    (convert 22 9 v).run Try.prog w = .ok (.string ⟨l.toArray⟩) w := by
  rcases h.2 with ⟨rfl, h0⟩ | ⟨g, cap, cur, rfl, hg, hh, hnc, hcp, hcs, htake⟩
  · obtain rfl : l = [] := List.length_eq_zero_iff.1 h0
    exact text_of_nil w
  · exact run_convert_bytes_back (P := Try.prog) w 22 9 5 ⟨g, 0, none⟩ cap l Try.underlying22 Try.underlying5 Try.underlying9 (cells_of_row h)

end Go.Proofs.Ytmpjnabadplbjaa
