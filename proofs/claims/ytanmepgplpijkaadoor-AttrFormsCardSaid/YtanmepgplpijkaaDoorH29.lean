/- The sort of numbers of 32 bits: the helpers' contracts in one form: what the row holds behind, and that nothing below it has turned. -/
import Derived.Test.YtanmepgplpijkaaDoorH25
import Derived.Test.YtanmepgplpijkaaDoorH26
import Derived.Test.YtanmepgplpijkaaDoorH28
import Derived.Test.YtanmepgplpijkaaDoorH24
import Derived.Sort.AssemblyPlain
namespace Go.Proofs.YtanmepgplpijkaaDoor.Srt
open Go.RowKit Go.Sort
def Left (blk off : Nat) (d' : Array Nat) (w w' : World) : Prop := Holds encN w' blk off d' ∧ RowKit.Below blk w w'
def Ends (blk off : Nat) (Q : Array Nat → Prop) (w : World) (e : Ending) (w' : World) : Prop := e = .returned (.tuple #[]) ∧ ∃ d', Hid (Q d') ∧ Hid (Left blk off d' w w')
abbrev Ordered (a b : Nat) (d d' : Array Nat) : Prop := PermIn a b d d' ∧ SortedIn ltN a b d'
def Picked (blk off a b : Nat) (d : Array Nat) (w : World) (e : Ending) (w' : World) : Prop := ∃ (p h : Nat), e = .returned (.tuple #[.int .i64 p, .int .i64 h]) ∧ (a < p ∧ p < b ∧ (h = 2 → p + 1 < b)) ∧ h ≤ 2 ∧ Hid (Left blk off d w w')
def Told (blk off a b : Nat) (d : Array Nat) (w : World) (e : Ending) (w' : World) : Prop := ∃ (r : Bool) (d' : Array Nat), e = .returned (.bool r) ∧ Hid (PermIn a b d d') ∧ Hid (r = true → SortedIn ltN a b d') ∧ Hid (Left blk off d' w w')
theorem left_put {blk off n : Nat} {d d' : Array Nat} {w : World} (hH : Holds encN w blk off d) (hs : d'.size = d.size) : Left blk off d' w (putRow encN (Sort.ahead w n) blk off d') :=
  ⟨holds_putRow _ _ _ _ _ _ (holds_ahead _ _ _ _ _ _ hH) hs, below_row _ _ _ _ _⟩
theorem puts_ends {blk off : Nat} {d d' : Array Nat} {w w' : World} {e : Ending} {Q : Array Nat → Prop} (hH : Holds encN w blk off d) (hs : d'.size = d.size) (hQ : Q d') (h : Puts blk off d' w e w') : Ends blk off Q w e w' := by
  obtain ⟨he, n, rfl⟩ := h
  exact ⟨he, d', hQ, left_put hH hs⟩
theorem insertion_ends (blk off cap a b len : Nat) (d : Array Nat) (w : World) (hl : d.size = len) (hH : Holds encN w blk off d) (hab : a ≤ b) (hb : b ≤ len) (hsz : len < 1000000000) :
    Calls Tryd.prog 88 #[.slice (some ⟨blk, off, none⟩) len cap, .int .i64 a, .int .i64 b] w (Ends blk off (Ordered a b d) w) := by
  subst hl
  have h := insertionSort_holds swoN d a b hab hb
  exact (insertion_any blk off cap a b d w hH hab hb (by omega)).mono fun _ _ hp => puts_ends hH h.1.1 h hp
theorem heap_ends (blk off cap a b len : Nat) (d : Array Nat) (w : World) (hl : d.size = len) (hH : Holds encN w blk off d) (hab : a ≤ b) (hb : b ≤ len) (hsz : len < 1000000000) :
    Calls Tryd.prog 89 #[.slice (some ⟨blk, off, none⟩) len cap, .int .i64 a, .int .i64 b] w (Ends blk off (Ordered a b d) w) := by
  subst hl
  have h := heapSort_holds swoN d a b hab hb
  exact (heap_any blk off cap a b d w hH hab hb hsz).mono fun _ _ hp => puts_ends hH h.1.1 h hp
theorem shake_ends (blk off cap a b len : Nat) (d : Array Nat) (w : World) (hl : d.size = len) (hH : Holds encN w blk off d) (hab : a + 12 < b) (hb : b ≤ len) (hsz : len < 5000) (hblk : blk < w.heap.size) :
    Calls Tryd.prog 90 #[.slice (some ⟨blk, off, none⟩) len cap, .int .i64 a, .int .i64 b] w (Ends blk off (PermIn a b d) w) := by
  subst hl
  exact (shake_any blk off cap a b d w hH hab hb (by omega) (by omega) hblk).mono fun _ _ ⟨he, d', h1, h2, h3⟩ => ⟨he, d', h1, h2, h3⟩
theorem choose_ends (blk off cap a b len : Nat) (d : Array Nat) (w : World) (hl : d.size = len) (hH : Holds encN w blk off d) (hab : a + 12 < b) (hb : b ≤ len) (hsz : len < 5000) (hblk : blk < w.heap.size) :
    Calls Tryd.prog 91 #[.slice (some ⟨blk, off, none⟩) len cap, .int .i64 a, .int .i64 b] w
      (Picked blk off a b d w) := by
  subst hl
  exact (choose_any blk off cap a b d w hH hab hb (by omega) hblk).mono fun _ _ ⟨p, h, he, h1, h2, h3⟩ => ⟨p, h, he, h1, h2, holds_below hH h3 hblk, h3.mono (by omega)⟩
theorem partial_ends (blk off cap a b len : Nat) (d : Array Nat) (w : World) (hl : d.size = len) (hH : Holds encN w blk off d) (hab : a < b) (hb : b ≤ len) (hsz : len < 5000) (hB : Sort.Below ltN a b d) :
    Calls Tryd.prog 93 #[.slice (some ⟨blk, off, none⟩) len cap, .int .i64 a, .int .i64 b] w
      (Told blk off a b d w) := by
  subst hl
  by_cases h : b < a + 50
  · exact (partial_any blk off cap a b d w hH hab hb h (by omega)).mono fun _ _ ⟨r, he, h1, n, hw⟩ => ⟨r, d, he, permIn_refl _ _ _, h1, by unfold Hid; rw [hw]; exact left_put hH rfl⟩
  · have hp := partialInsertionSort_holds swoN d a b hab hb hB
    exact (partial_long blk off cap a b d w hH hb (by omega) (by omega)).mono fun _ _ ⟨he, n, hw⟩ => ⟨_, _, he, hp.1, hp.2, by unfold Hid; rw [hw]; exact left_put hH hp.1.1⟩
theorem reverse_ends (blk off cap a b len : Nat) (d : Array Nat) (w : World) (hl : d.size = len) (hH : Holds encN w blk off d) (hab : a < b) (hb : b ≤ len) (hsz : len < 5000) :
    Calls Tryd.prog 92 #[.slice (some ⟨blk, off, none⟩) len cap, .int .i64 a, .int .i64 b] w (Ends blk off (PermIn a b d) w) := by
  subst hl
  have h := reverseRange_holds d a b (Nat.le_of_lt hab) hb
  exact (reverse_any blk off cap a b d w hH hab hb (by omega)).mono fun _ _ hp => puts_ends hH h.1 h hp
theorem size_equal {a b pivot : Nat} {d : Array Nat} : (partitionEqual ltN d a b pivot).2.size = d.size := by
  have h : ∀ (i j : Nat) (d : Array Nat), (partEqLoop ltN a i j d).2.size = d.size := by
    intro i j d
    fun_induction partEqLoop ltN a i j d <;> simp_all [size_swp]
  unfold partitionEqual
  rw [h, size_swp]
theorem equal_ends (blk off cap a b pivot len : Nat) (d : Array Nat) (w : World) (hl : d.size = len) (hH : Holds encN w blk off d) (hap : a < pivot) (hpb : pivot < b) (hb : b ≤ len) (hsz : len < 5000) :
    Calls Tryd.prog 95 #[.slice (some ⟨blk, off, none⟩) len cap, .int .i64 a, .int .i64 b, .int .i64 pivot] w
      (fun e w' => ∃ (mid : Nat) (d4 : Array Nat), e = .returned (.int .i64 mid) ∧ Hid (partitionEqual ltN d a b pivot = (mid, d4)) ∧ Hid (Left blk off d4 w w')) := by
  subst hl
  exact (equal_part blk off cap a b pivot d w hH hap hpb hb (by omega)).mono fun _ _ ⟨he, n, hw⟩ => ⟨_, _, he, rfl, by unfold Hid; rw [hw]; exact left_put hH size_equal⟩
theorem split_ends (blk off cap a b pivot len : Nat) (d : Array Nat) (w : World) (hl : d.size = len) (hH : Holds encN w blk off d) (hap : a < pivot) (hpb : pivot < b) (hb : b ≤ len) (hsz : len < 5000) :
    Calls Tryd.prog 96 #[.slice (some ⟨blk, off, none⟩) len cap, .int .i64 a, .int .i64 b, .int .i64 pivot] w
      (fun e w' => ∃ (mid : Nat) (ap : Bool) (d4 : Array Nat), e = .returned (.tuple #[.int .i64 mid, .bool ap]) ∧ Hid (partition ltN d a b pivot = (mid, ap, d4)) ∧ Hid (Left blk off d4 w w')) := by
  subst hl
  have h := (partition_holds ltN swoN d a b pivot (by omega) hpb hb).2.2.1.1
  exact (split_part blk off cap a b pivot d w hH hap hpb hb (by omega)).mono fun _ _ ⟨he, n, hw⟩ => ⟨_, _, _, he, rfl, by unfold Hid; rw [hw]; exact left_put hH h⟩
end Go.Proofs.YtanmepgplpijkaaDoor.Srt
