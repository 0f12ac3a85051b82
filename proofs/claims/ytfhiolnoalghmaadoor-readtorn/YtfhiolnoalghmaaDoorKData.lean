/- The data of a tree's text. -/
import Derived.Test.YtfhiolnoalghmaaDoorTrees
import Derived.Test.YtfhiolnoalghmaaDoorRead
import Derived.Deep.DeepFit
namespace Go.Proofs.YtfhiolnoalghmaaDoor
open Go.RowKit
/-- What stands around a text and counts for nothing. -/
def Ahead (pre : List UInt8) : Prop := ∀ x r, blankI x.toNat = false → ¬ x.toNat = 59 → skipB false (pre ++ x :: r) = x :: r
theorem ahead_nil : Ahead [] := fun _ _ h1 h2 => skip_keep h1 h2
theorem readT_around (t : Tx) (pre post : List UInt8) (hok : t.ok = true) (hd : t.dep ≤ 40) (hn : t.num ≤ 400) (hpre : Ahead pre) (hdl : Delim post) (hs : skipB false post = []) (hl : pre.length + t.pr.length + post.length ≤ 3000) :
    readT (pre ++ t.pr ++ post) = .inr [t.dat] := by
  obtain ⟨x, r, e, h1, h2, h3⟩ := pr_head t hok
  unfold readT
  rw [if_neg (by simp only [List.length_append]; omega)]
  have hsk : skipB false (pre ++ t.pr ++ post) = t.pr ++ post := by rw [List.append_assoc, e]; exact hpre x _ h1 h2
  rw [hsk]
  have hrt := read_tree t 40 post 0 hok hd hdl (by omega)
  unfold pAll
  rw [if_neg (by rw [e]; simp), hrt]
  simp only []
  rw [hs]
  unfold pAll
  rw [if_pos rfl]
  rfl
theorem readT_tree (t : Tx) (hok : t.ok = true) (hd : t.dep ≤ 40) (hn : t.num ≤ 400) (hl : t.pr.length ≤ 3000) : readT t.pr = .inr [t.dat] := by
  have := readT_around t [] [] hok hd hn ahead_nil delim_nil rfl (by simpa using hl)
  simpa using this
set_option maxRecDepth 100000 in
set_option maxHeartbeats 1000000 in
theorem data_ok (s : ByteArray) (items : List (DataW Unit)) (w : World) (B : Nat) (hG : Globs w B) (hB : B ≤ w.heap.size) (hs : s.size ≤ 9223372036854775807) (hr : readT s.data.toList = .inr items) :
    Calls Tryd.prog 14 #[.string s] w fun e w' => (∃ a cap, e = .returned (.tuple #[.slice a items.length cap, .bool true]) ∧ items.length ≤ cap ∧ items.length ≤ 400 ∧
      RowD w' (fun b => w.heap.size ≤ b ∧ b < w'.heap.size) (Dat w' (fun b => w.heap.size ≤ b ∧ b < w'.heap.size) 40) items a items.length) ∧ Below w.heap.size w w' := by
  have HC := hid (read_any s w B hG hB hs)
  go_enter Tryd.func14, Tryd.ntmps14
  go_wp2_with fail
  have hcall := HC.out
  go_fit hcall
  clear hcall HC
  rintro e w1 ⟨hO, hb⟩
  rw [hr] at hO
  obtain ⟨a, cap, rfl, h1, h2, h3⟩ := hO
  have H3 := hid h3
  clear h3
  go_wp2_with fail
  go_ret2
  exact ⟨⟨a, cap, rfl, h1, h2, H3.out⟩, hb⟩
theorem readT_a : readT [97] = .inr [.lit (.string [97])] := by kernel_rfl
set_option maxRecDepth 100000 in
set_option maxHeartbeats 1000000 in
theorem tells_any (w : World) (B : Nat) (hG : Globs w B) (hB : B ≤ w.heap.size) :
    Calls Tryd.prog 19 #[] w fun e w' => e = .returned (.bool true) ∧ Below w.heap.size w w' := by
  have HC := hid (read_any ⟨#[97]⟩ w B hG hB (by decide))
  go_enter Tryd.func19, Tryd.ntmps19
  go_wp2_with fail
  have hcall := HC.out
  go_fit hcall
  clear hcall HC
  rintro e w1 ⟨hO, hb⟩
  have hr : readT (ByteArray.mk #[97]).data.toList = .inr [.lit (.string [97])] := readT_a
  rw [hr] at hO
  obtain ⟨a, cap, rfl, _, _, _⟩ := hO
  go_wp2_with fail
  go_ret
  exact ⟨rfl, hb⟩
end Go.Proofs.YtfhiolnoalghmaaDoor
