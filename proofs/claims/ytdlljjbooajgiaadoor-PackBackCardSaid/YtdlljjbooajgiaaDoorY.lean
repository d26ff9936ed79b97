/-
  What statement PackBack answers: true, for every input.
-/
import Derived.Test.YtdlljjbooajgiaaDoorX
namespace Go.Proofs.YtdlljjbooajgiaaDoor
open Go.RowKit Go.Lib

set_option maxHeartbeats 2000000 in
/-- The input that the statement passes by. -/
theorem back_light (lv : Value) (xs : List Int) (a : Option Addr) (c : Nat) (hv : lv = .slice a xs.length c) (name text : ByteArray) (wd : Int) (size small : Int)
    (h : 40 < xs.length ∨ 15 < name.size ∨ 1000 < text.size ∨ ¬ (1 ≤ size ∧ size ≤ 7) ∨ ¬ (0 ≤ small ∧ small < 256 ^ size.toNat)) (w : World) (htab : Hid (Tab w)) :
    Calls Tryd.prog 5 #[lv, .string name, .string text, .int .u64 wd, .int .i64 size, .int .i64 small] w fun e w' => e = .returned (.bool true) ∧ Below w.heap.size w w' := by
  subst hv
  have key : ∀ h : 40 < xs.length ∨ (¬ 40 < xs.length ∧ 15 < name.size) ∨ (¬ 40 < xs.length ∧ ¬ 15 < name.size ∧ 1000 < text.size) ∨ (¬ 40 < xs.length ∧ ¬ 15 < name.size ∧ ¬ 1000 < text.size ∧ size < 1) ∨
      (¬ 40 < xs.length ∧ ¬ 15 < name.size ∧ ¬ 1000 < text.size ∧ ¬ size < 1 ∧ size > 7) ∨ (¬ 40 < xs.length ∧ ¬ 15 < name.size ∧ ¬ 1000 < text.size ∧ ¬ size < 1 ∧ ¬ size > 7 ∧ small < 0),
      Calls Tryd.prog 5 #[.slice a xs.length c, .string name, .string text, .int .u64 wd, .int .i64 size, .int .i64 small] w fun e w' => e = .returned (.bool true) ∧ Below w.heap.size w w' := by
    clear h
    intro h
    rcases h with h | ⟨g1, h⟩ | ⟨g1, g2, h⟩ | ⟨g1, g2, g3, h⟩ | ⟨g1, g2, g3, g4, h⟩ | ⟨g1, g2, g3, g4, g5, h⟩
    all_goals
      go_enter Tryd.func5, Tryd.ntmps5
      go_wp2_with fail
      refine (alive_any _ htab).mono ?_
      rintro e w4 ⟨rfl, b4⟩
      go_wp2
      go_ret
      exact ⟨rfl, b4⟩
  by_cases h1 : 40 < xs.length
  · exact key (.inl h1)
  by_cases h2 : 15 < name.size
  · exact key (.inr (.inl ⟨h1, h2⟩))
  by_cases h3 : 1000 < text.size
  · exact key (.inr (.inr (.inl ⟨h1, h2, h3⟩)))
  by_cases h4 : size < 1
  · exact key (.inr (.inr (.inr (.inl ⟨h1, h2, h3, h4⟩))))
  by_cases h5 : size > 7
  · exact key (.inr (.inr (.inr (.inr (.inl ⟨h1, h2, h3, h4, h5⟩)))))
  by_cases h6 : small < 0
  · exact key (.inr (.inr (.inr (.inr (.inr ⟨h1, h2, h3, h4, h5, h6⟩)))))
  obtain ⟨k, rfl⟩ := Int.eq_ofNat_of_zero_le (show 0 ≤ size by omega)
  have h7 : ¬ small < 256 ^ k := by
    rcases h with h | h | h | h | h
    · omega
    · omega
    · omega
    · exact fun _ => h ⟨by omega, by omega⟩
    · exact fun hc => h ⟨by omega, hc⟩
  have hk7 : k ≤ 7 := by omega
  have h8 : decide (wrap64 (2 ^ (8 * k)) ≤ small) = true := decide_eq_true (by rw [pow_wrap k hk7]; omega)
  clear h h7 key
  go_enter Tryd.func5, Tryd.ntmps5
  go_wp2_with fail
  refine (alive_any _ htab).mono ?_
  rintro e w4 ⟨rfl, b4⟩
  go_wp2
  go_ret
  exact ⟨rfl, b4⟩

theorem NumRow.kept {k : IntKind} {w w' : World} {v : Value} {xs : List Int} (h : NumRow k w v xs) (hb : Below w.heap.size w w') : NumRow k w' v xs := by
  obtain ⟨a, c, hv, h⟩ := h
  refine ⟨a, c, hv, ?_⟩
  rcases h with h | ⟨b, o, ha, hlt, hc⟩
  · exact .inl h
  · exact .inr ⟨b, o, ha, Nat.lt_of_lt_of_le hlt hb.size, fun j hj => by rw [hb.cell hlt]; exact hc j hj⟩

/-- What the statement puts. -/
def backBytes (xs : List Int) (name text : ByteArray) (wd k m : Nat) : List UInt8 :=
  smallBytes 8 (xs.map unsigned) ++ nameBytes name ++ (le 2 text.size ++ text.data.toList) ++ le 8 wd ++ le k m

theorem back_len (xs : List Int) (name text : ByteArray) (wd k m : Nat) (hn : name.size ≤ 15) : (backBytes xs name text wd k m).length = 8 * xs.length + 26 + text.size + k := by
  simp only [backBytes, List.length_append, smallBytes_length, List.length_map, nameBytes_length name hn, le_length, byte_len]
  omega

theorem back_int (xs : List Int) (name text : ByteArray) (wd k m : Nat) (j : Nat) (hj : j < xs.length) : ((backBytes xs name text wd k m).drop (8 * j)).take 8 = le 8 (unsigned (xs.getD j 0)).toNat := by
  have hj2 : j < (xs.map unsigned).length := by simpa using hj
  refine seg (a := smallBytes 8 ((xs.map unsigned).take j)) (c := smallBytes 8 ((xs.map unsigned).drop (j + 1)) ++ (nameBytes name ++ ((le 2 text.size ++ text.data.toList) ++ (le 8 wd ++ le k m)))) ?_ ?_ (le_length _ _)
  · rw [backBytes, smallBytes_split 8 _ j hj2, getD_map _ _ _ hj]
    simp only [List.append_assoc]
  · rw [smallBytes_length, List.length_take]
    rw [Nat.min_eq_left (Nat.le_of_lt hj2)]

theorem back_name (xs : List Int) (name text : ByteArray) (wd k m : Nat) (hn : name.size ≤ 15) : ((backBytes xs name text wd k m).drop (8 * xs.length)).take 16 = nameBytes name := by
  refine seg (a := smallBytes 8 (xs.map unsigned)) (c := (le 2 text.size ++ text.data.toList) ++ (le 8 wd ++ le k m)) ?_ ?_ (nameBytes_length name hn)
  · rw [backBytes]
    simp only [List.append_assoc]
  · rw [smallBytes_length, List.length_map]

theorem back_two (xs : List Int) (name text : ByteArray) (wd k m : Nat) (hn : name.size ≤ 15) : ((backBytes xs name text wd k m).drop (8 * xs.length + 16)).take 2 = le 2 text.size := by
  refine seg (a := smallBytes 8 (xs.map unsigned) ++ nameBytes name) (c := text.data.toList ++ (le 8 wd ++ le k m)) ?_ ?_ (le_length _ _)
  · rw [backBytes]
    simp only [List.append_assoc]
  · rw [List.length_append, smallBytes_length, List.length_map, nameBytes_length name hn]

theorem back_text (xs : List Int) (name text : ByteArray) (wd k m : Nat) (hn : name.size ≤ 15) : ((backBytes xs name text wd k m).drop (8 * xs.length + 16 + 2)).take text.size = text.data.toList := by
  refine seg (a := smallBytes 8 (xs.map unsigned) ++ nameBytes name ++ le 2 text.size) (c := le 8 wd ++ le k m) ?_ ?_ (byte_len _)
  · rw [backBytes]
    simp only [List.append_assoc]
  · simp only [List.length_append, smallBytes_length, List.length_map, nameBytes_length name hn, le_length]

theorem back_word (xs : List Int) (name text : ByteArray) (wd k m : Nat) (hn : name.size ≤ 15) : ((backBytes xs name text wd k m).drop (8 * xs.length + 16 + 2 + text.size)).take 8 = le 8 wd := by
  refine seg (a := smallBytes 8 (xs.map unsigned) ++ nameBytes name ++ (le 2 text.size ++ text.data.toList)) (c := le k m) ?_ ?_ (le_length _ _)
  · rw [backBytes]
  · simp only [List.length_append, smallBytes_length, List.length_map, nameBytes_length name hn, le_length, byte_len]
    omega

theorem back_small (xs : List Int) (name text : ByteArray) (wd k m : Nat) (hn : name.size ≤ 15) : ((backBytes xs name text wd k m).drop (8 * xs.length + 16 + 2 + text.size + 8)).take k = le k m := by
  refine seg (a := smallBytes 8 (xs.map unsigned) ++ nameBytes name ++ (le 2 text.size ++ text.data.toList) ++ le 8 wd) (c := []) ?_ ?_ (le_length _ _)
  · rw [backBytes, List.append_nil]
  · simp only [List.length_append, smallBytes_length, List.length_map, nameBytes_length name hn, le_length, byte_len]
    omega

theorem back_bytes (xs : List Int) (name text : ByteArray) (wd k m : Nat) :
    [] ++ smallBytes 8 (xs.map unsigned) ++ namesBytes [name] ++ (le 2 text.size ++ text.data.toList) ++ smallBytes 8 [(wd : Int)] ++ smallBytes k [(m : Int)] = backBytes xs name text wd k m := by
  rw [smallBytes_one, smallBytes_one, List.nil_append]
  simp [backBytes, namesBytes]

end Go.Proofs.YtdlljjbooajgiaaDoor
