/- What is in an expression, one by one. -/
import Derived.Test.YteblglkmkakcjaaCPlain
namespace Go.Proofs.Yteblglkmkakcjaa
set_option maxRecDepth 100000
open Go.RowKit Go.WideMaps Go.Maps
theorem kid_many {g : List ByteArray → Ex → Int} {bs : List ByteArray} {x : Xn} {ks : List Ex} {m j : Nat} {t : Ex} (hm : m = ks.length) (h : ks[j]? = some t) (hb : bindsB x.k m j = true) (h40 : 40 < bs.length + x.ns.length) : kidI g bs x ks j = 1 := by
  subst hm; unfold kidI; rw [h]; dsimp only; rw [if_pos hb, if_pos (by simpa using h40)]
theorem kid_in {g : List ByteArray → Ex → Int} {bs : List ByteArray} {x : Xn} {ks : List Ex} {m j : Nat} {t : Ex} (hm : m = ks.length) (h : ks[j]? = some t) (hb : bindsB x.k m j = true) (h40 : ¬ 40 < bs.length + x.ns.length) : kidI g bs x ks j = g (bs ++ x.ns) t := by
  subst hm; unfold kidI; rw [h]; dsimp only; rw [if_pos hb, if_neg (by simpa using h40)]
theorem kid_out {g : List ByteArray → Ex → Int} {bs : List ByteArray} {x : Xn} {ks : List Ex} {m j : Nat} {t : Ex} (hm : m = ks.length) (h : ks[j]? = some t) (hb : bindsB x.k m j = false) : kidI g bs x ks j = g bs t := by
  subst hm; unfold kidI; rw [h]; dsimp only; rw [if_neg (by simp [hb])]
theorem FineX.kids {W : World} {B d : Nat} {x : Xn} {ks : List Ex} (h : FineX W B (d + 1) (.mk x ks)) : ∀ j, j < ks.length → ∃ y l b o, ks[j]? = some (.mk y l) ∧ x.aa = some ⟨b, o, none⟩ ∧ b < B ∧ Lies W b (o + j * 9) y l.length ∧ FineX W B d (.mk y l) := by
  intro j hj
  obtain ⟨b, o, h1, h2, h3, h4⟩ := h.2 j hj
  cases he : ks[j] with
  | mk y l =>
    rw [he] at h3 h4
    exact ⟨y, l, b, o, by rw [List.getElem?_eq_getElem hj, he], h1, h2, h3, h4⟩
end Go.Proofs.Yteblglkmkakcjaa
