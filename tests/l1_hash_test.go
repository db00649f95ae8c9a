package tests

import (
	"crypto/sha256"
	"encoding/hex"
	"math"
	"strconv"
	"strings"
	"testing"

	"loop.example/s03048/impl"
)

// mixedText has bytes of all values as soon as it is long enough.
func mixedText(size int) string {
	out := make([]byte, size)
	for i := range out {
		out[i] = byte(i*167 + size)
	}
	return string(out)
}

func librarySum(s string) string {
	sum := sha256.Sum256([]byte(s))
	return string(sum[:])
}

func wantHex(t *testing.T, what string, got string, want string) {
	t.Helper()
	if hex.EncodeToString([]byte(got)) != want {
		t.Errorf("%s: %x, want %s", what, got, want)
	}
}

func TestSha256OfTheDocumentsTexts(t *testing.T) {
	wantHex(t, "the empty text", impl.Sha256(""), "e3b0c44298fc1c149afbf4c8996fb92427ae41e4649b934ca495991b7852b855")
	wantHex(t, "abc", impl.Sha256("abc"), "ba7816bf8f01cfea414140de5dae2223b00361a396177a9cb410ff61f20015ad")
}

func TestSha256OfMixedTexts(t *testing.T) {
	known := []struct {
		size int
		want string
	}{
		{0, "e3b0c44298fc1c149afbf4c8996fb92427ae41e4649b934ca495991b7852b855"},
		{1, "4bf5122f344554c53bde2ebb8cd2b7e3d1600ad631c385a5d7cce23c7785459a"},
		{54, "40c3622d8d1691ac6593d9ce4246b807e8e415cf249f9b00d237d6523b9a5c30"},
		{55, "80bbca4792c972a92a91399fa889103f004d536689a788e3db5c8a2123db327e"},
		{56, "105a83fd1923bf11120c10ae4e1ac675fd2634c3e81d591ebf224970987cdc7c"},
		{57, "473fabd7883253ef32748bb097447a7b72c5ad947297a4f378dd5760b3ad3bb7"},
		{63, "91a96f647198a9ca675dbcf5ef4121f9cb15aac61a9a2ab34b1134df00c43483"},
		{64, "8bccebf442d505283e07586a2a6d4bf8ade31728868dc370c62dcb5cfa139eb3"},
		{65, "e21384d812302b5186839a82597cb19e77d898f0b0b5f39e5c2b7d9bb3ad2536"},
		{118, "6ad089823756fe12924b6027bbc4a9a186a98889fde8ded59f6a772d7a6278fc"},
		{119, "23e1629f8f01a1829ecdea67662586b3ca19f69738ff06d7449a2cb726b43425"},
		{120, "f568a14f4454d6c4978cb5044fe45b1b3ecbd98205847a1e7585bf132e225474"},
		{121, "87ee78f2ae2d11f27f464b631d2db9dc52850950f720e8b843886300ddfbf6d3"},
		{127, "44329c06d7429f7f6f79cf33788102525b20601734260ae335cb23bbfd862e5e"},
		{128, "e29ee1f1e19e05d46af3bcaa097049ee3718d678f6855701f6a7280654a2997f"},
		{129, "ae9a841a4de1f5b3180ed65f36150671feb47fd39cb167a94d72131201b29e33"},
		{256, "1a8f89b962363f9d7f6c321cf876cada993f2eefcac30249b383be9f30b14a1c"},
		{1000, "20f4e8a00836998e5fe1a51655636799e184f628ffd67f906a1ae884e29535e6"},
		{4097, "65b434be5372ffdcde9ef80054953b34b34bc133832a774c22ff10c67fdc5921"},
		{65536, "6ec6e79920c756780f6193051ca3d3fd4d48ce7d0a951571204d5e4adfaeef87"},
	}
	for _, k := range known {
		wantHex(t, strconv.Itoa(k.size)+" bytes", impl.Sha256(mixedText(k.size)), k.want)
	}
}

func TestSha256IsTheLibrarysAtEverySize(t *testing.T) {
	for size := 0; size <= 600; size++ {
		for _, s := range []string{mixedText(size), strings.Repeat("\x00", size), strings.Repeat("\xff", size)} {
			if impl.Sha256(s) != librarySum(s) {
				t.Errorf("%d bytes, %.4q..: %x, want %x", size, s, impl.Sha256(s), librarySum(s))
			}
		}
	}
}

func TestSha256OfEachByte(t *testing.T) {
	for b := 0; b < 256; b++ {
		s := string([]byte{byte(b)})
		if impl.Sha256(s) != librarySum(s) {
			t.Errorf("byte %d: %x, want %x", b, impl.Sha256(s), librarySum(s))
		}
	}
}

// The size of the text is written in bits: this one needs four bytes of it.
func TestSha256OfALongText(t *testing.T) {
	s := mixedText(3 << 20)
	if impl.Sha256(s) != librarySum(s) {
		t.Errorf("%x, want %x", impl.Sha256(s), librarySum(s))
	}
}

func TestSha256IsTheSameAtEachCall(t *testing.T) {
	first := impl.Sha256("abc")
	impl.Sha256(mixedText(100))
	if impl.Sha256("abc") != first {
		t.Error("a call between two others has changed the answer")
	}
}

func TestDigestAtEveryWidth(t *testing.T) {
	for _, s := range []string{"", "abc", mixedText(64), mixedText(1000)} {
		for w := 1; w <= 32; w++ {
			if got := impl.Digest(s, w); got != librarySum(s)[:w] {
				t.Errorf("width %d: %x, want %x", w, got, librarySum(s)[:w])
			}
		}
	}
	wantHex(t, "width 1", impl.Digest("abc", 1), "ba")
	wantHex(t, "width 2", impl.Digest("abc", 2), "ba78")
	wantHex(t, "width 31", impl.Digest("abc", 31), "ba7816bf8f01cfea414140de5dae2223b00361a396177a9cb410ff61f20015")
	wantHex(t, "width 32", impl.Digest("abc", 32), "ba7816bf8f01cfea414140de5dae2223b00361a396177a9cb410ff61f20015ad")
}

func TestDigestAtNoWidth(t *testing.T) {
	for _, w := range []int{0, 33, 34, 64, 256, 257, -1, -32, 1<<32 + 1, math.MinInt, math.MinInt + 1, math.MaxInt} {
		for _, s := range []string{"", "abc"} {
			if got := impl.Digest(s, w); got != "" {
				t.Errorf("%q at %d: %x, want nothing", s, w, got)
			}
		}
	}
}

func orderedKeys() []string {
	keys := []string{
		"", "a", "ab", "abc", "abcd", "b", "ba", "A", "\x00", "\x00\x00", "\x00a", "a\x00",
		"\xff", "\xff\xff", "a\xff", "é", "key", "key0", "key00", " ", "_",
		strings.Repeat("k", 255), strings.Repeat("k", 256), strings.Repeat("k", 257), mixedText(256),
	}
	for i := 0; i < 60; i++ {
		keys = append(keys, strconv.Itoa(i))
	}
	return keys
}

func TestHigherOfPairs(t *testing.T) {
	keys := orderedKeys()
	for _, a := range keys {
		for _, b := range keys {
			if got, want := impl.Higher(a, b), librarySum(a) > librarySum(b); got != want {
				t.Errorf("%q above %q: %t, want %t", a, b, got, want)
			}
			if a != b && impl.Higher(a, b) == impl.Higher(b, a) {
				t.Errorf("of %q and %q not exactly one is higher", a, b)
			}
		}
	}
}

// Two keys whose hashes begin alike are told apart further on.
func TestHigherLooksPastTheFirstBytes(t *testing.T) {
	first := map[string]string{}
	found := 0
	for i := 0; i < 2000; i++ {
		key := "n" + strconv.Itoa(i)
		begin := librarySum(key)[:2]
		if other, ok := first[begin]; ok {
			found++
			if impl.Higher(key, other) != (librarySum(key) > librarySum(other)) || impl.Higher(key, other) == impl.Higher(other, key) {
				t.Errorf("%q and %q", key, other)
			}
		}
		first[begin] = key
	}
	if found == 0 {
		t.Error("no two keys begin alike: nothing was tested")
	}
}

func TestHigherOfAKeyAndItself(t *testing.T) {
	for _, a := range orderedKeys() {
		if impl.Higher(a, strings.Clone(a)) {
			t.Errorf("%q is higher than itself", a)
		}
	}
}

func TestHigherHasNoCircle(t *testing.T) {
	keys := orderedKeys()
	higher := make([][]bool, len(keys))
	for i, a := range keys {
		higher[i] = make([]bool, len(keys))
		for j, b := range keys {
			higher[i][j] = impl.Higher(a, b)
		}
	}
	for i := range keys {
		for j := range keys {
			for k := range keys {
				if higher[i][j] && higher[j][k] && !higher[i][k] {
					t.Errorf("%q above %q above %q, but not the first above the last", keys[i], keys[j], keys[k])
				}
			}
		}
	}
}
