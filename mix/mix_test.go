package mix_test

import (
	"math"
	"math/big"
	"math/rand"
	"slices"
	"testing"

	"tenter/mix"
)

// hundred are the numbers 0 to 99.
func hundred() []int {
	var l []int
	for n := range 100 {
		l = append(l, n)
	}
	return l
}

// words are numbers of one and of two bits, those around them, and any.
func words() []uint64 {
	l := []uint64{0, math.MaxUint64}
	for i := range 64 {
		one := uint64(1) << i
		l = append(l, one, one-1, one+1, -one, ^one)
		for k := range i {
			l = append(l, one|1<<k)
		}
	}
	from := rand.New(rand.NewSource(4))
	for range 5000 {
		l = append(l, from.Uint64(), from.Uint64()>>from.Intn(64), from.Uint64()<<from.Intn(64))
	}
	return l
}

// anyList has numbers of any size, below 0, too.
func anyList(from *rand.Rand, most int) []int {
	var l []int
	for range from.Intn(most + 1) {
		l = append(l, int(from.Uint64())>>from.Intn(64))
	}
	return l
}

// mixed is the document's Mix, with whole numbers that are cut to 64 bits.
func mixed(x uint64) uint64 {
	n := new(big.Int).SetUint64(x)
	for _, step := range []struct {
		by    uint
		times string
	}{{32, "D6E8FEB86659FD93"}, {29, "A0761D6478BD642F"}, {32, "1"}} {
		factor, _ := new(big.Int).SetString(step.times, 16)
		n.Xor(n, new(big.Int).Rsh(n, step.by))
		n.Mul(n, factor)
		n.Mod(n, new(big.Int).Lsh(big.NewInt(1), 64))
	}
	return n.Uint64()
}

// gathered is the document's Ints.
func gathered(l []int) uint64 {
	h := uint64(0)
	for _, n := range l {
		h = mixed(h ^ uint64(n))
	}
	return mixed(h + uint64(len(l)))
}

// 4.1

func TestMixOfKnownNumbers(t *testing.T) {
	want := map[uint64]uint64{
		0: 0, 1: 0xE8BC15092A6ED3B9, 2: 0x0B8D089B8E2885FB, 7: 0xB6FFD2C982AEA6F4,
		1 << 31: 0x98F73F8D2490D879, 1 << 32: 0xECF5B731919C4289, 1 << 63: 0xFBECD049478B37BD,
		0x0123456789ABCDEF: 0xA8C61F3362669A5A, math.MaxUint64: 0xF9A127CA7E9117D2,
	}
	for x, y := range want {
		if got := mix.Mix(x); got != y {
			t.Errorf("Mix(%#x) is %#x, want %#x", x, got, y)
		}
		if got := mix.Unmix(y); got != x {
			t.Errorf("Unmix(%#x) is %#x, want %#x", y, got, x)
		}
	}
}

func TestMixStepByStep(t *testing.T) {
	for _, x := range words() {
		if got := mix.Mix(x); got != mixed(x) {
			t.Fatalf("Mix(%#x) is %#x, want %#x", x, got, mixed(x))
		}
	}
}

func TestUnmixTellsTheNumberOfThatMix(t *testing.T) {
	if mix.Mix(mix.Unmix(7)) != 7 {
		t.Errorf("Mix(Unmix(7)) is %d", mix.Mix(mix.Unmix(7)))
	}
	for _, x := range words() {
		if got := mixed(mix.Unmix(x)); got != x {
			t.Fatalf("Unmix(%#x) is %#x, of which Mix is %#x", x, mix.Unmix(x), got)
		}
	}
}

// 4.2

func TestIntsOfKnownNumbers(t *testing.T) {
	want := []struct {
		l []int
		h uint64
	}{
		{nil, 0}, {[]int{}, 0}, {[]int{0}, 0xE8BC15092A6ED3B9}, {[]int{0, 0}, 0x0B8D089B8E2885FB},
		{[]int{1}, 0x7BE26E783307D9C3}, {[]int{2}, 0x7300BCD2FCC1F185}, {[]int{1, 2}, 0x21D890CE8554EAE3}, {[]int{2, 1}, 0xE09B94F35E2E6296},
		{[]int{1, 2, 3}, 0x0FB7A66D9DBA1933}, {[]int{1, 0}, 0x2412509DCC04888E}, {[]int{0, 1}, 0x23659B7A1A3883BB},
		{[]int{-1}, 0xF79EAC67CED13443}, {[]int{1 << 32}, 0x846144828C03ED46},
		{[]int{math.MinInt}, 0x3F4ABBE7A68C6A41}, {[]int{math.MaxInt}, 0x180B80366CC6A63C}, {hundred(), 0x3CEB5AC500E9DAF0},
	}
	for _, w := range want {
		if got := mix.Ints(w.l...); got != w.h {
			t.Errorf("Ints(%v) is %#x, want %#x", w.l, got, w.h)
		}
	}
}

func TestIntsOfAnyNumbers(t *testing.T) {
	from := rand.New(rand.NewSource(42))
	for range 500 {
		l := anyList(from, 40)
		was := slices.Clone(l)
		if got := mix.Ints(l...); got != gathered(l) {
			t.Fatalf("Ints(%v) is %#x, want %#x", l, got, gathered(l))
		}
		if !slices.Equal(l, was) {
			t.Fatalf("the list is %v, and was %v", l, was)
		}
	}
}

func TestTextOfKnownTexts(t *testing.T) {
	want := map[string]uint64{
		"": 0, "a": 0xB67DAC77AACC068B, "ab": 0xDE329DFF0AE84888, "ba": 0xFE4A9C2698984506, "tenter": 0x3E97036D877A1C70,
		"\x00": 0xE8BC15092A6ED3B9, "\x00\x00": 0x0B8D089B8E2885FB,
		// Bytes, and not characters, nor numbers below 0.
		"\u00e9": 0x077581F18A32FEFB, "\u20ac": 0x24B6E32167741A56, "\xff\xfe": 0x5E6E84E5FE3463E6,
	}
	for s, h := range want {
		if got := mix.Text(s); got != h {
			t.Errorf("Text(%q) is %#x, want %#x", s, got, h)
		}
	}
}

func TestTextIsIntsOfItsBytes(t *testing.T) {
	from := rand.New(rand.NewSource(43))
	for size := range 300 {
		var bytes []byte
		var l []int
		for range size {
			b := byte(from.Intn(256))
			bytes, l = append(bytes, b), append(l, int(b))
		}
		if got := mix.Text(string(bytes)); got != gathered(l) {
			t.Fatalf("Text(%q) is %#x, want %#x", bytes, got, gathered(l))
		}
	}
}

// 4.3

// wantSum looks at a sum twice: to look must not change it.
func wantSum(t *testing.T, what string, s *mix.Sum, l []int) {
	t.Helper()
	for range 2 {
		if s.Len() != len(l) || s.Value() != gathered(l) {
			t.Fatalf("%s: %d, %#x; want %d, %#x", what, s.Len(), s.Value(), len(l), gathered(l))
		}
	}
}

func TestANewSumHasNothing(t *testing.T) {
	s := mix.New()
	if s == nil {
		t.Fatal("New tells nil")
	}
	wantSum(t, "new", s, nil)
	s.Add()
	s.Add(nil...)
	s.Add([]int{}...)
	wantSum(t, "nothing added", s, nil)
	s.Add(0)
	wantSum(t, "a 0 added", s, []int{0})
}

func TestWhatIsAddedComesBehind(t *testing.T) {
	from := rand.New(rand.NewSource(44))
	s := mix.New()
	var all []int
	for range 200 {
		more := anyList(from, 5)
		s.Add(more...)
		all = append(all, more...)
		wantSum(t, "added", s, all)
	}
}

func TestAddNeitherChangesNorKeepsItsList(t *testing.T) {
	s := mix.New()
	l := []int{3, 1, 2}
	s.Add(l...)
	if !slices.Equal(l, []int{3, 1, 2}) {
		t.Errorf("the list is %v", l)
	}
	l[0], l[2] = 7, 8
	wantSum(t, "behind a change of the list", s, []int{3, 1, 2})
}

func TestSumsAreApart(t *testing.T) {
	a, b := mix.New(), mix.New()
	a.Add(1)
	b.Add(2, 3)
	a.Add(4)
	mix.Ints(9, 9)
	mix.Text("nine")
	wantSum(t, "one", a, []int{1, 4})
	wantSum(t, "the other", b, []int{2, 3})
	wantSum(t, "a third", mix.New(), nil)
}

func TestANilSum(t *testing.T) {
	var s *mix.Sum
	wantSum(t, "nil", s, nil)
	s.Add()
	s.Add(1, 2, 3)
	wantSum(t, "nil, added to", s, nil)
	wantSum(t, "new, behind that", mix.New(), nil)
}

// 4.4

func TestMixAndUnmixUndoOneAnother(t *testing.T) {
	for _, x := range words() {
		if back := mix.Unmix(mix.Mix(x)); back != x {
			t.Fatalf("Unmix(Mix(%#x)) is %#x", x, back)
		}
		if back := mix.Mix(mix.Unmix(x)); back != x {
			t.Fatalf("Mix(Unmix(%#x)) is %#x", x, back)
		}
	}
}

func TestMixIsOneToOne(t *testing.T) {
	of := map[uint64]uint64{}
	for _, x := range words() {
		y := mix.Mix(x)
		if other, met := of[y]; met && other != x {
			t.Fatalf("Mix of %#x and of %#x is %#x", x, other, y)
		}
		of[y] = x
	}
}

// 4.5

// parted adds a list in parts of some size, 0 for any, with nothing now and then.
func parted(from *rand.Rand, l []int, size int) *mix.Sum {
	s := mix.New()
	for len(l) > 0 {
		n := size
		if size == 0 {
			n = from.Intn(4)
		}
		n = min(n, len(l))
		s.Add(l[:n]...)
		s.Add()
		l = l[n:]
	}
	return s
}

func TestHoweverParted(t *testing.T) {
	from := rand.New(rand.NewSource(45))
	for range 100 {
		l := anyList(from, 30)
		for _, size := range []int{0, 1, 2, 3, 7, 30} {
			s := parted(from, l, size)
			if s.Len() != len(l) || s.Value() != mix.Ints(l...) {
				t.Fatalf("%v in parts of %d: %d, %#x; want %#x", l, size, s.Len(), s.Value(), mix.Ints(l...))
			}
		}
	}
}
