/- CharText, by the program's way and by the model's: the same text and code at every number. -/
import Derived.Test.YtlmkpngaiilldaaDoorSpecHex
import Derived.Test.YtlmkpngaiilldaaDoorChars0
import Derived.Test.YtlmkpngaiilldaaDoorShelf
import Derived.Laws.Cover4
namespace Go.Proofs.YtlmkpngaiilldaaDoor
open Go.RowKit Go.PlainAid

theorem hex_ascii : ∀ k : Fin 256, (hexL k.val).all (fun b => decide (b.toNat < 128)) = true := by decide +kernel
theorem hex_up : ∀ k : Fin 256, Lib.toUpperA (hexL k.val) = upL k.val := by decide +kernel
theorem hex_len : ∀ k : Fin 256, (hexL k.val).length ≤ 2 := by decide +kernel
theorem up_len : ∀ k : Fin 256, (upL k.val).length ≤ 2 := by decide +kernel
theorem txt_size (l : List UInt8) : (⟨l.toArray⟩ : ByteArray).size = l.length := by simp [ByteArray.size]

theorem upper_any (k : Nat) (hk : k < 256) (w : World) : Calls Tryd.prog 90 #[txt (hexL k)] w fun e w' => e = .returned (txt (upL k)) ∧ Below w.heap.size w w' := by
  have hl := hex_len ⟨k, hk⟩
  have hu := hex_up ⟨k, hk⟩
  have ha := hex_ascii ⟨k, hk⟩
  simp only [] at hl hu ha
  rw [List.all_eq_true] at ha
  refine (Tryd.strings_ToUpper_ascii ⟨(hexL k).toArray⟩ w (by rw [txt_size]; omega) (fun j b hj => by
    have := ha b (List.mem_of_getElem? (by simpa using hj))
    simpa using this)).mono ?_
  rintro e w' ⟨rfl, bel⟩
  exact ⟨by simp [hu, txt], bel⟩

/-- A character's text. -/
def charText (c : Int) : ByteArray := if numB c = true then (⟨#[48]⟩ ++ ⟨(upL c.toNat).toArray⟩) ++ ⟨#[88]⟩ else (⟨#[34]⟩ ++ Utf8.encode c) ++ ⟨#[34]⟩
theorem enc_size (c : Int) : (Utf8.encode c).size ≤ 4 := encode_size_le c

set_option maxRecDepth 100000 in
set_option maxHeartbeats 1600000 in
theorem l01Char_any (c : Int) (w : World) (h : charB c = true) : Calls Tryd.prog 30 #[.int .i64 c] w fun e w' => e = .returned (.string (charText c)) ∧ Below w.heap.size w w' := by
  have hr := charB_iff.1 h
  have h0 : 0 ≤ c := by omega
  by_cases n : numB c = true
  · have n' : c < 32 ∨ c = 127 ∨ c = 34 := of_decide_eq_true n
    have hfin : charText c = (⟨#[48]⟩ ++ ⟨(upL c.toNat).toArray⟩) ++ ⟨#[88]⟩ := by unfold charText; rw [if_pos n]
    obtain ⟨k, rfl⟩ := Int.eq_ofNat_of_zero_le h0
    have hk : k < 256 := by omega
    have hl := up_len ⟨k, hk⟩
    simp only [] at hl
    have hs : (⟨(upL k).toArray⟩ : ByteArray).size ≤ 2 := by rw [txt_size]; exact hl
    clear h hr n
    rw [hfin]
    clear hfin
    have hk1 := fun w => specHex_any k hk w
    rcases n' with n1 | n1 | n1
    · go_enter Tryd.func30, Tryd.ntmps30
      go_wp2_with (go_at_call 44; refine (specHex_any k hk _).mono ?_; rintro e w' ⟨rfl, bel⟩; simp only [txt])
      go_ret
      exact ⟨rfl, bel⟩
    · have n2 : k = 127 := by omega
      clear n1
      subst n2
      go_enter Tryd.func30, Tryd.ntmps30
      go_wp2_with (go_at_call 44; refine (specHex_any 127 (by omega) _).mono ?_; rintro e w' ⟨rfl, bel⟩; simp only [txt])
      go_ret
      exact ⟨rfl, bel⟩
    · have n2 : k = 34 := by omega
      clear n1
      subst n2
      go_enter Tryd.func30, Tryd.ntmps30
      go_wp2_with (go_at_call 44; refine (specHex_any 34 (by omega) _).mono ?_; rintro e w' ⟨rfl, bel⟩; simp only [txt])
      go_ret
      exact ⟨rfl, bel⟩
  · have n' : ¬ (c < 32 ∨ c = 127 ∨ c = 34) := fun q => n (decide_eq_true q)
    have hfin : charText c = (⟨#[34]⟩ ++ Utf8.encode c) ++ ⟨#[34]⟩ := by unfold charText; rw [if_neg n]
    rw [hfin]
    have H : Hid (charB c = true) := h
    have hs := enc_size c
    have n1 : 32 ≤ c := by omega
    have n2 : (c == 127) = false := by simp; omega
    have n3 : (c == 34) = false := by simp; omega
    clear hfin hr n h n' h0
    go_enter Tryd.func30, Tryd.ntmps30
    go_wp2_with (go_at_call 45; refine (l01Utf8_any c _ H.out).mono ?_; rintro e w' ⟨rfl, bel⟩)
    go_ret
    exact ⟨rfl, bel⟩

set_option maxRecDepth 100000 in
set_option maxHeartbeats 1600000 in
theorem implChar_any (c : Int) (w : World) (h : charB c = true) (hd : w.cell? ⟨8, 15, none⟩ = some (.int .u8 4)) :
    Calls Tryd.prog 62 #[.int .i64 c] w fun e w' => e = .returned (.tuple #[.string (charText c), .int .i64 0]) ∧ Below w.heap.size w w' := by
  have hr := charB_iff.1 h
  have h0 : 0 ≤ c := by omega
  have Hd : Hid (w.cell? ⟨8, 15, none⟩ = some (.int .u8 4)) := hd
  clear hd
  by_cases n : numB c = true
  · have n' : c < 32 ∨ c = 127 ∨ c = 34 := of_decide_eq_true n
    have hfin : charText c = (⟨#[48]⟩ ++ ⟨(upL c.toNat).toArray⟩) ++ ⟨#[88]⟩ := by unfold charText; rw [if_pos n]
    obtain ⟨k, rfl⟩ := Int.eq_ofNat_of_zero_le h0
    have hk : k < 256 := by omega
    have hl := up_len ⟨k, hk⟩
    simp only [] at hl
    have hs : (⟨(upL k).toArray⟩ : ByteArray).size ≤ 2 := by rw [txt_size]; exact hl
    clear hr n'
    rw [hfin]
    clear hfin
    go_enter Tryd.func62, Tryd.ntmps62
    go_wp2_with (first
      | (go_at_call 46; refine (charOK_impl _ _).mono ?_; rintro e w' ⟨rfl, rfl⟩)
      | (go_at_call 89; refine (needsNumber_any _ _).mono ?_; rintro e w' ⟨rfl, rfl⟩)
      | (go_at_call 91; refine (fmtOuter k hk _ Hd.out).mono ?_; rintro e w' ⟨rfl, bel⟩)
      | (go_at_call 90; refine (upper_any k hk _).mono ?_; rintro e w'' ⟨rfl, bel2⟩; simp only [txt]))
    go_ret2
    exact ⟨rfl, bel.trans (bel2.mono bel.size)⟩
  · have hfin : charText c = (⟨#[34]⟩ ++ Utf8.encode c) ++ ⟨#[34]⟩ := by unfold charText; rw [if_neg n]
    rw [hfin]
    have n' : numB c = false := by simpa using n
    have hs := enc_size c
    clear hfin n
    go_enter Tryd.func62, Tryd.ntmps62
    go_wp2_with (first
      | (go_at_call 46; refine (charOK_impl _ _).mono ?_; rintro e w' ⟨rfl, rfl⟩)
      | (go_at_call 89; refine (needsNumber_any _ _).mono ?_; rintro e w' ⟨rfl, rfl⟩))
    go_ret2
    exact ⟨rfl, Below.refl _ _⟩
end Go.Proofs.YtlmkpngaiilldaaDoor
