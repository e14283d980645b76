/-
  The digest of a string as chapter 2 defines it (words of 32 bits), its length, and its values at the chapter's examples. No program is spoken of. No condition.
-/
import Derived.Test.YtbaggjhjkignkaaDoorChecked
import Derived.KernelRfl
namespace Go.Proofs.YtbaggjhjkignkaaDoor

/-- A word of 32 bits. -/
abbrev Wd : Type := BitVec 32
/-- A word rotated right. -/
def rotW (x : Wd) (n : Nat) : Wd := x >>> n ||| x <<< (32 - n)
/-- A byte as a word. -/
def bw (b : UInt8) : Wd := BitVec.ofNat 32 b.toNat

namespace Sha

def KN : List Nat := [1116352408, 1899447441, 3049323471, 3921009573, 961987163, 1508970993, 2453635748, 2870763221, 3624381080, 310598401, 607225278, 1426881987, 1925078388, 2162078206, 2614888103, 3248222580, 3835390401, 4022224774, 264347078, 604807628, 770255983, 1249150122, 1555081692, 1996064986, 2554220882, 2821834349, 2952996808, 3210313671, 3336571891, 3584528711, 113926993, 338241895, 666307205, 773529912, 1294757372, 1396182291, 1695183700, 1986661051, 2177026350, 2456956037, 2730485921, 2820302411, 3259730800, 3345764771, 3516065817, 3600352804, 4094571909, 275423344, 430227734, 506948616, 659060556, 883997877, 958139571, 1322822218, 1537002063, 1747873779, 1955562222, 2024104815, 2227730452, 2361852424, 2428436474, 2756734187, 3204031479, 3329325298]
def K : List Wd := KN.map (BitVec.ofNat 32)
theorem K_length : K.length = 64 := rfl

def s0 (x : Wd) : Wd := rotW x 7 ^^^ rotW x 18 ^^^ x >>> 3
def s1 (x : Wd) : Wd := rotW x 17 ^^^ rotW x 19 ^^^ x >>> 10
def S0 (x : Wd) : Wd := rotW x 2 ^^^ rotW x 13 ^^^ rotW x 22
def S1 (x : Wd) : Wd := rotW x 6 ^^^ rotW x 11 ^^^ rotW x 25
def ch (e f g : Wd) : Wd := (e &&& f) ^^^ (~~~e &&& g)
def maj (a b c : Wd) : Wd := (a &&& b) ^^^ (a &&& c) ^^^ (b &&& c)

/-- The word behind the words so far. -/
def nextW (ws : List Wd) : Wd := ws.getD (ws.length - 16) 0 + s0 (ws.getD (ws.length - 15) 0) + ws.getD (ws.length - 7) 0 + s1 (ws.getD (ws.length - 2) 0)
/-- m words more. -/
def moreW : Nat → List Wd → List Wd
  | 0, ws => ws
  | m + 1, ws => moreW m ws ++ [nextW (moreW m ws)]
theorem moreW_length : ∀ (m : Nat) (ws : List Wd), (moreW m ws).length = ws.length + m
  | 0, _ => rfl
  | m + 1, ws => by rw [moreW, List.length_append, moreW_length m ws]; rfl

structure St where
  a : Wd
  b : Wd
  c : Wd
  d : Wd
  e : Wd
  f : Wd
  g : Wd
  h : Wd
def St.list (s : St) : List Wd := [s.a, s.b, s.c, s.d, s.e, s.f, s.g, s.h]
def tW (s : St) (k w : Wd) : Wd := s.h + S1 s.e + ch s.e s.f s.g + k + w
def uW (s : St) : Wd := S0 s.a + maj s.a s.b s.c
def rnd (s : St) (k w : Wd) : St := ⟨tW s k w + uW s, s.a, s.b, s.c, s.d + tW s k w, s.e, s.f, s.g⟩
/-- The state behind the first i rounds. -/
def rounds (ws : List Wd) (s : St) : Nat → St
  | 0 => s
  | i + 1 => rnd (rounds ws s i) (K.getD i 0) (ws.getD i 0)
def plus (s t : St) : St := ⟨s.a + t.a, s.b + t.b, s.c + t.c, s.d + t.d, s.e + t.e, s.f + t.f, s.g + t.g, s.h + t.h⟩

/-- A word of four bytes, the highest one first. -/
def be (p : List UInt8) (i : Nat) : Wd := bw (p.getD i 0) <<< 24 ||| bw (p.getD (i + 1) 0) <<< 16 ||| bw (p.getD (i + 2) 0) <<< 8 ||| bw (p.getD (i + 3) 0)
/-- The first m words of a block. -/
def firstW (p : List UInt8) : Nat → List Wd
  | 0 => []
  | m + 1 => firstW p m ++ [be p (4 * m)]
theorem firstW_length (p : List UInt8) : ∀ m, (firstW p m).length = m
  | 0 => rfl
  | m + 1 => by rw [firstW, List.length_append, firstW_length p m]; rfl
def sched (p : List UInt8) : List Wd := moreW 48 (firstW p 16)
theorem sched_length (p : List UInt8) : (sched p).length = 64 := by unfold sched; rw [moreW_length, firstW_length]
def block (p : List UInt8) (s : St) : St := plus s (rounds (sched p) s 64)
def init : St := ⟨1779033703, 3144134277, 1013904242, 2773480762, 1359893119, 2600822924, 528734635, 1541459225⟩
/-- Block j of a string. -/
def blk (p : List UInt8) (j : Nat) : List UInt8 := (p.drop (64 * j)).take 64
/-- The words behind the first j blocks. -/
def after (p : List UInt8) : Nat → St
  | 0 => init
  | j + 1 => block (blk p j) (after p j)

/-- The bytes that are added to n bytes. -/
def padZ (n : Nat) : Nat := (119 - n % 64) % 64
def padB (n : Nat) : List UInt8 := 128 :: List.replicate (padZ n) 0 ++ [7, 6, 5, 4, 3, 2, 1, 0].map fun i => UInt8.ofNat (8 * n / 2 ^ (8 * i))
def pad (l : List UInt8) : List UInt8 := l ++ padB l.length
theorem padB_length (n : Nat) : (padB n).length = padZ n + 9 := by
  simp [padB]
theorem pad_length (l : List UInt8) : (pad l).length = l.length + padZ l.length + 9 := by
  simp [pad, padB]; omega
theorem pad_whole (l : List UInt8) : (pad l).length = 64 * ((pad l).length / 64) := by
  rw [pad_length]; unfold padZ; omega
def beBytes (x : Wd) : List UInt8 := [UInt8.ofNat (x >>> 24).toNat, UInt8.ofNat (x >>> 16).toNat, UInt8.ofNat (x >>> 8).toNat, UInt8.ofNat x.toNat]
def outB (s : St) : List UInt8 := s.list.flatMap beBytes
theorem outB_length (s : St) : (outB s).length = 32 := rfl
def digest (l : List UInt8) : List UInt8 := outB (after (pad l) ((pad l).length / 64))
/-- The digest of a string. -/
def shaS (s : ByteArray) : ByteArray := ⟨(digest s.data.toList).toArray⟩
theorem shaS_size (s : ByteArray) : (shaS s).size = 32 := by
  show (digest s.data.toList).toArray.size = 32
  rw [List.size_toArray]; exact outB_length _

theorem sha_empty : digest [] = [227, 176, 196, 66, 152, 252, 28, 20, 154, 251, 244, 200, 153, 111, 185, 36, 39, 174, 65, 228, 100, 155, 147, 76, 164, 149, 153, 27, 120, 82, 184, 85] := by kernel_rfl
theorem sha_abc : digest [97, 98, 99] = [186, 120, 22, 191, 143, 1, 207, 234, 65, 65, 64, 222, 93, 174, 34, 35, 176, 3, 97, 163, 150, 23, 122, 156, 180, 16, 255, 97, 242, 0, 21, 173] := by kernel_rfl
end Sha
end Go.Proofs.YtbaggjhjkignkaaDoor

