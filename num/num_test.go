package num_test

import (
	"fmt"
	"math"
	"math/big"
	"math/rand"
	"slices"
	"strings"
	"testing"

	"tenter/api"
	"tenter/num"
)

// edgeNumbers lie where a number's digits, or what it fits into, change.
func edgeNumbers() []int {
	l := []int{0, 1, 2, 3, 5, 7, 9, math.MaxInt, math.MaxInt - 1, math.MaxInt / 2, math.MaxInt/2 + 1, math.MaxInt / 3, math.MaxInt/3 + 1}
	for bit := range 63 {
		l = append(l, 1<<bit-1, 1<<bit, 1<<bit+1)
	}
	for ten := 10; ten <= math.MaxInt/10; ten *= 10 {
		l = append(l, ten-1, ten, ten+1)
	}
	// 3037000499 is the greatest number whose square is one of 63 bits.
	l = append(l, 3037000499, 3037000500, api.MaxNum, api.MaxNum+1)
	for _, n := range slices.Clone(l) {
		l = append(l, -n)
	}
	return append(l, math.MinInt, math.MinInt+1)
}

// anyNumber has any size, so that sums and products lie on both sides of the ends.
func anyNumber(from *rand.Rand) int { return int(from.Uint64()) >> from.Intn(64) }

func wantRead(t *testing.T, s string, n int, why api.Errno) {
	t.Helper()
	if got, fault := num.Read(s); got != n || fault != why {
		t.Errorf("Read of %.40q (%d bytes): %d, %d; want %d, %d", s, len(s), got, fault, n, why)
	}
}

// 3.1

func TestText(t *testing.T) {
	want := map[int]string{
		0: "0", 1: "1", 9: "9", 10: "10", 11: "11", 99: "99", 100: "100", 1000000: "1000000", 2147483647: "2147483647", 2147483648: "2147483648",
		-1: "-1", -9: "-9", -10: "-10", -100: "-100", -2147483649: "-2147483649",
		math.MaxInt: "9223372036854775807", math.MinInt: "-9223372036854775808", math.MinInt + 1: "-9223372036854775807",
	}
	for n, s := range want {
		if got := num.Text(n); got != s {
			t.Errorf("Text(%d) is %q", n, got)
		}
	}
	for _, n := range edgeNumbers() {
		if got := num.Text(n); got != big.NewInt(int64(n)).String() {
			t.Errorf("Text(%d) is %q", n, got)
		}
	}
}

func TestRead(t *testing.T) {
	want := map[string]int{
		"0": 0, "1": 1, "7": 7, "9": 9, "10": 10, "42": 42, "100": 100, "1000000000": 1000000000,
		"999999999": 999999999, "1048575": api.MaxId, "2147483646": api.MaxNum - 1, "2147483647": api.MaxNum,
	}
	for s, n := range want {
		wantRead(t, s, n, api.OK)
	}
}

func TestReadAboveTheEnd(t *testing.T) {
	for _, s := range []string{
		"2147483648", "2147483649", "2147483650", "2147483657", "2147484647", "3000000000", "9999999999", "10000000000", "21474836470",
		// These go round to small numbers, in 32, 63 and 64 bits.
		"4294967296", "4294967297", "9223372036854775807", "9223372036854775808", "18446744073709551615", "18446744073709551616", "18446744073709551617",
		"340282366920938463463374607431768211457",
	} {
		wantRead(t, s, 0, api.ErrRange)
	}
}

func TestReadHoweverLong(t *testing.T) {
	for _, size := range []int{11, 19, 20, 21, 39, 64, 1000, api.MaxLine, 1 << 20} {
		for _, digit := range []string{"1", "5", "9"} {
			wantRead(t, strings.Repeat(digit, size), 0, api.ErrRange)
		}
		wantRead(t, "1"+strings.Repeat("0", size), 0, api.ErrRange)
		wantRead(t, strings.Repeat("0", size), 0, api.ErrNumber)
		wantRead(t, strings.Repeat("0", size)+"1", 0, api.ErrNumber)
	}
}

func TestReadTellsAWrongByteAheadOfTheRange(t *testing.T) {
	for _, size := range []int{10, 20, 1000, 1 << 20} {
		nines := strings.Repeat("9", size)
		for _, s := range []string{nines + "x", nines + " ", nines + "-", nines + "\x00", "x" + nines, nines + "." + nines, "0" + nines, "-" + nines} {
			wantRead(t, s, 0, api.ErrNumber)
		}
	}
}

func TestReadOfNoNumber(t *testing.T) {
	for _, s := range []string{
		"", " ", "-", "+", "00", "01", "007", "0000000000", "02147483647", "02147483648",
		"-1", "-0", "+1", "+0", "--1", " 1", "1 ", "1 2", "1\n", "\t1", "1\x00", "\x001",
		"0x1", "0b1", "0o7", "1e3", "1.0", "1.", ".1", "1_000", "1,000", "1a", "a1", "a", "12-", "1-2", "NaN", "Inf",
		"\u0661", "1\u0661", "\u0661\u0662", "\uff11", "\u00b2", "1\u00b2", "\xff", "1\xff", "\xc2\xb1", "1\u00a0",
	} {
		wantRead(t, s, 0, api.ErrNumber)
	}
}

func TestReadOfShortTexts(t *testing.T) {
	for a := range 256 {
		x := string([]byte{byte(a)})
		if a >= '0' && a <= '9' {
			wantRead(t, x, a-'0', api.OK)
		} else {
			wantRead(t, x, 0, api.ErrNumber)
		}
		for b := range 256 {
			y := string([]byte{byte(a), byte(b)})
			if a >= '1' && a <= '9' && b >= '0' && b <= '9' {
				wantRead(t, y, 10*(a-'0')+b-'0', api.OK)
			} else {
				wantRead(t, y, 0, api.ErrNumber)
			}
		}
	}
}

func TestWords(t *testing.T) {
	want := []struct {
		l []int
		s string
	}{
		{nil, ""}, {[]int{}, ""}, {[]int{0}, "0"}, {[]int{5}, "5"}, {[]int{-5}, "-5"}, {[]int{1, 2}, "1 2"}, {[]int{2, 1, 1}, "2 1 1"},
		{[]int{10, 0, -3, 10}, "10 0 -3 10"},
		{[]int{math.MinInt, math.MaxInt}, "-9223372036854775808 9223372036854775807"},
	}
	for _, w := range want {
		if got := num.Words(w.l); got != w.s {
			t.Errorf("Words(%v) is %q, want %q", w.l, got, w.s)
		}
	}
}

func TestWordsOfMany(t *testing.T) {
	l := edgeNumbers()
	was := slices.Clone(l)
	if got, want := num.Words(l), strings.Trim(fmt.Sprint(l), "[]"); got != want {
		t.Errorf("%q, want %q", got, want)
	}
	if !slices.Equal(l, was) {
		t.Errorf("the list was changed")
	}
}

// 3.2

// wantWhole holds a sum, or a product, against the true one.
func wantWhole(t *testing.T, what string, a, b int, got int, told bool, whole *big.Int) {
	t.Helper()
	fits := whole.IsInt64()
	want := 0
	if fits {
		want = int(whole.Int64())
	}
	if got != want || told != fits {
		t.Errorf("%s(%d, %d): %d, %v; want %d, %v", what, a, b, got, told, want, fits)
	}
}

func wantBoth(t *testing.T, a, b int) {
	t.Helper()
	x, y := big.NewInt(int64(a)), big.NewInt(int64(b))
	sum, told := num.Add(a, b)
	wantWhole(t, "Add", a, b, sum, told, new(big.Int).Add(x, y))
	product, told := num.Mul(a, b)
	wantWhole(t, "Mul", a, b, product, told, new(big.Int).Mul(x, y))
}

func TestAddAtTheEnds(t *testing.T) {
	const least, most = math.MinInt, math.MaxInt
	want := map[[2]int]int{
		{0, 0}: 0, {1, 2}: 3, {-1, 1}: 0, {-5, -6}: -11,
		{most, 0}: most, {0, most}: most, {most - 1, 1}: most, {most, -1}: most - 1, {most, least}: -1, {least, most}: -1, {most, -most}: 0,
		{least, 0}: least, {0, least}: least, {least + 1, -1}: least, {least, 1}: least + 1, {least / 2, least / 2}: least,
	}
	for p, n := range want {
		if got, told := num.Add(p[0], p[1]); got != n || !told {
			t.Errorf("Add(%d, %d): %d, %v; want %d", p[0], p[1], got, told, n)
		}
	}
	for _, p := range [][2]int{{most, 1}, {1, most}, {most, most}, {most/2 + 1, most/2 + 1}, {least, -1}, {-1, least}, {least, least}, {least/2 - 1, least / 2}} {
		if got, told := num.Add(p[0], p[1]); got != 0 || told {
			t.Errorf("Add(%d, %d): %d, %v; want 0, false", p[0], p[1], got, told)
		}
	}
}

func TestMulAtTheEnds(t *testing.T) {
	const least, most = math.MinInt, math.MaxInt
	want := map[[2]int]int{
		{0, 0}: 0, {3, 4}: 12, {-3, 4}: -12, {3, -4}: -12, {-3, -4}: 12,
		{0, most}: 0, {most, 0}: 0, {0, least}: 0, {least, 0}: 0, {-1, 0}: 0, {0, -1}: 0,
		{1, most}: most, {most, 1}: most, {most, -1}: -most, {-1, most}: -most, {1, least}: least, {least, 1}: least,
		{least / 2, 2}: least, {2, least / 2}: least, {-2, 1 << 62}: least, {1 << 62, -2}: least, {-1 << 31, 1 << 32}: least,
		{7, most / 7}: most, {most / 7, 7}: most,
	}
	for p, n := range want {
		if got, told := num.Mul(p[0], p[1]); got != n || !told {
			t.Errorf("Mul(%d, %d): %d, %v; want %d", p[0], p[1], got, told, n)
		}
	}
	for _, p := range [][2]int{
		{least, -1}, {-1, least}, {least, 2}, {2, least}, {least, least}, {least, most}, {most, least}, {most, most}, {most, 2}, {2, most}, {most, -2}, {-2, most},
		{1 << 62, 2}, {2, 1 << 62}, {-1 << 62, -2}, {1 << 32, 1 << 31}, {1 << 32, 1 << 32}, {1 << 62, 4}, {1 << 33, 1 << 31}, {-1 << 32, -1 << 31},
	} {
		if got, told := num.Mul(p[0], p[1]); got != 0 || told {
			t.Errorf("Mul(%d, %d): %d, %v; want 0, false", p[0], p[1], got, told)
		}
	}
}

func TestAddAndMulOfEdgeNumbers(t *testing.T) {
	l := edgeNumbers()
	for _, a := range l {
		for _, b := range l {
			wantBoth(t, a, b)
		}
	}
}

func TestAddAndMulOfAnyNumbers(t *testing.T) {
	from := rand.New(rand.NewSource(32))
	for range 50000 {
		wantBoth(t, anyNumber(from), anyNumber(from))
	}
}

// 3.3

func TestWhatIsReadHasThatText(t *testing.T) {
	from := rand.New(rand.NewSource(33))
	const bytes = "0123456789012345678901234567890123456789-+ x"
	read := 0
	for range 50000 {
		var s strings.Builder
		for range from.Intn(13) {
			s.WriteByte(bytes[from.Intn(len(bytes))])
		}
		if n, why := num.Read(s.String()); why == api.OK {
			read++
			if num.Text(n) != s.String() {
				t.Fatalf("Read of %q: %d", s.String(), n)
			}
		}
	}
	if read < 1000 {
		t.Fatalf("%d of 50000 texts were read: too few", read)
	}
}

func TestWhatHasATextIsRead(t *testing.T) {
	from := rand.New(rand.NewSource(34))
	l := edgeNumbers()
	for n := range 12000 {
		l = append(l, n, api.MaxNum-n, api.MaxNum+1+n, -n, anyNumber(from))
	}
	for _, n := range l {
		switch {
		case n < 0:
			wantRead(t, num.Text(n), 0, api.ErrNumber)
		case n > api.MaxNum:
			wantRead(t, num.Text(n), 0, api.ErrRange)
		default:
			wantRead(t, num.Text(n), n, api.OK)
		}
	}
}

// 3.4

// sumOf adds so many of a number, one by one.
func sumOf(a, count int) (int, bool) {
	sum, told := 0, true
	for range count {
		if sum, told = num.Add(sum, a); !told {
			return 0, false
		}
	}
	return sum, told
}

func TestAProductIsASumOfAsMany(t *testing.T) {
	for _, count := range []int{0, 1, 2, 3, 5, 7, 10, 64, 100} {
		l := edgeNumbers()
		if count > 0 {
			for near := -2; near <= 2; near++ {
				l = append(l, math.MaxInt/count/2+near, math.MinInt/count/2+near)
			}
			l = append(l, math.MaxInt/count, math.MaxInt/count-1, math.MinInt/count, math.MinInt/count+1)
		}
		if count > 1 {
			l = append(l, math.MaxInt/count+1, math.MinInt/count-1)
		}
		for _, a := range l {
			want, fits := sumOf(a, count)
			if got, told := num.Mul(a, count); got != want || told != fits {
				t.Errorf("Mul(%d, %d): %d, %v; their sum: %d, %v", a, count, got, told, want, fits)
			}
			if got, told := num.Mul(count, a); got != want || told != fits {
				t.Errorf("Mul(%d, %d): %d, %v; their sum: %d, %v", count, a, got, told, want, fits)
			}
		}
	}
}
