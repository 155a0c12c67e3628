package op_test

import (
	"math"
	"math/big"
	"math/rand"
	"regexp"
	"slices"
	"strconv"
	"strings"
	"testing"

	"tenter/api"
	"tenter/op"
)

func writeOf(key int) api.Op { return api.Op{Key: key} }

func readOf(key, tx, nth int) api.Op { return api.Op{Read: true, Key: key, Tx: tx, Nth: nth} }

// far are numbers that neither a key, nor an id, nor a write's number is.
func far() []int {
	return []int{
		math.MinInt, math.MinInt + 1, math.MinInt32, -api.MaxId, -5, -1, api.MaxId + 1, 1 << 20, 1<<20 + 1, 1 << 21,
		math.MaxInt32, 1 << 32, 1<<32 + 1, 1<<32 + 5, 1<<52 + 1, 1 << 62, 1<<62 + 1, math.MaxInt,
	}
}

// edges are numbers at the edges of what a key, an id, a write's number may be, and far ones.
func edges() []int {
	return append(far(), 0, 1, 2, 3, 9, 10, api.MaxNth-1, api.MaxNth, api.MaxNth+1, api.MaxKey-1, api.MaxKey)
}

// isRight is the document's word, number by number.
func isRight(o api.Op) bool {
	if o.Key < 1 || o.Key > 1048575 {
		return false
	}
	if !o.Read || o.Tx == 0 {
		return o.Tx == 0 && o.Nth == 0
	}
	return o.Tx >= 1 && o.Tx <= 1048575 && o.Nth >= 1 && o.Nth <= 4095
}

// textOf is the text of a right operation, put together apart.
func textOf(o api.Op) string {
	var s strings.Builder
	if o.Read {
		s.WriteString("r" + strconv.Itoa(o.Key) + "@" + strconv.Itoa(o.Tx))
	} else {
		s.WriteString("w" + strconv.Itoa(o.Key))
	}
	if o.Tx > 0 {
		s.WriteString("." + strconv.Itoa(o.Nth))
	}
	return s.String()
}

// allOps are all mixtures of numbers at the edges, right and not.
func allOps() []api.Op {
	var l []api.Op
	for _, key := range edges() {
		for _, tx := range edges() {
			for _, nth := range edges() {
				l = append(l, readOf(key, tx, nth), api.Op{Key: key, Tx: tx, Nth: nth})
			}
		}
	}
	return l
}

// 9.1

func wantRight(t *testing.T, o api.Op, why api.Errno) {
	t.Helper()
	if got := op.Right(o); got != why {
		t.Errorf("Right(%v): %d, want %d", o, got, why)
	}
}

func TestRight(t *testing.T) {
	for _, o := range []api.Op{
		writeOf(1), writeOf(5), writeOf(api.MaxKey),
		readOf(1, 0, 0), readOf(api.MaxKey, 0, 0),
		readOf(1, 1, 1), readOf(api.MaxKey, 1, 1), readOf(1, api.MaxId, 1), readOf(1, 1, api.MaxNth),
		readOf(api.MaxKey, api.MaxId, api.MaxNth),
	} {
		wantRight(t, o, api.OK)
	}
	for _, o := range []api.Op{
		{}, writeOf(0), writeOf(api.MaxKey + 1), {Key: 5, Tx: 1}, {Key: 5, Nth: 1}, {Key: 5, Tx: 1, Nth: 1}, {Key: 5, Tx: -1}, {Key: 5, Nth: -1},
		readOf(0, 0, 0), readOf(api.MaxKey+1, 0, 0), readOf(5, 0, 1), readOf(5, 0, -1), readOf(5, 3, 0),
		readOf(0, 1, 1), readOf(5, api.MaxId+1, 1), readOf(5, 1, api.MaxNth+1), readOf(5, -1, 1), readOf(5, -1, 0),
	} {
		wantRight(t, o, api.ErrRange)
	}
}

func TestRightOfAllMixtures(t *testing.T) {
	for _, o := range allOps() {
		want := api.ErrRange
		if isRight(o) {
			want = api.OK
		}
		if got := op.Right(o); got != want {
			t.Fatalf("Right(%v): %d, want %d", o, got, want)
		}
	}
}

func TestOf(t *testing.T) {
	for _, o := range allOps() {
		want := api.Version{}
		if o.Read {
			want = api.Version{Tx: o.Tx, Key: o.Key, Nth: o.Nth}
		}
		if got := op.Of(o); got != want {
			t.Fatalf("Of(%v): %v, want %v", o, got, want)
		}
	}
}

func TestText(t *testing.T) {
	want := map[api.Op]string{
		writeOf(5): "w5", writeOf(1): "w1", writeOf(10): "w10", writeOf(api.MaxKey): "w1048575",
		readOf(5, 0, 0): "r5@0", readOf(api.MaxKey, 0, 0): "r1048575@0",
		readOf(5, 3, 2): "r5@3.2", readOf(1, 1, 1): "r1@1.1", readOf(10, 20, 30): "r10@20.30",
		readOf(api.MaxKey, api.MaxId, api.MaxNth): "r1048575@1048575.4095",
	}
	for o, s := range want {
		if got := op.Text(o); got != s {
			t.Errorf("Text(%v) is %q, want %q", o, got, s)
		}
	}
}

func TestTextOfWhatIsNotRightIsEmpty(t *testing.T) {
	for _, o := range allOps() {
		want := ""
		if isRight(o) {
			want = textOf(o)
		}
		if got := op.Text(o); got != want {
			t.Fatalf("Text(%v) is %q, want %q", o, got, want)
		}
	}
}

func TestSame(t *testing.T) {
	a, b, c := writeOf(5), readOf(5, 0, 0), readOf(5, 3, 2)
	unlike := [][]api.Op{
		{}, {a}, {b}, {c}, {a, b}, {b, a}, {a, a}, {a, b, c}, {a, c, b}, {a, b, a},
		{writeOf(6)}, {readOf(6, 3, 2)}, {readOf(5, 4, 2)}, {readOf(5, 3, 1)}, {{Key: 5, Tx: 3, Nth: 2}}, {{}}, {{Read: true}}, {{}, {}},
	}
	for i, x := range unlike {
		for k, y := range unlike {
			if got := op.Same(x, slices.Clone(y)); got != (i == k) {
				t.Errorf("Same(%v, %v) is %v", x, y, got)
			}
		}
	}
	if !op.Same(nil, nil) || !op.Same(nil, []api.Op{}) || !op.Same([]api.Op{}, nil) {
		t.Errorf("lists without operations are not the same")
	}
	if op.Same(nil, []api.Op{{}}) || op.Same([]api.Op{{}}, nil) {
		t.Errorf("nothing and one operation are the same")
	}
}

// 9.2

func wantRead(t *testing.T, s string, o api.Op, why api.Errno) {
	t.Helper()
	if got, fault := op.Read(s); got != o || fault != why {
		t.Errorf("Read of %.60q (%d bytes): %v, %d; want %v, %d", s, len(s), got, fault, o, why)
	}
}

func wantNone(t *testing.T, why api.Errno, texts ...string) {
	t.Helper()
	for _, s := range texts {
		wantRead(t, s, api.Op{}, why)
	}
}

func TestRead(t *testing.T) {
	want := map[string]api.Op{
		"w5": writeOf(5), "w1": writeOf(1), "w10": writeOf(10), "w1048575": writeOf(api.MaxKey),
		"r5@0": readOf(5, 0, 0), "r1048575@0": readOf(api.MaxKey, 0, 0),
		"r5@3.2": readOf(5, 3, 2), "r1@1.1": readOf(1, 1, 1), "r10@20.30": readOf(10, 20, 30),
		"r1048575@1048575.4095": readOf(api.MaxKey, api.MaxId, api.MaxNth),
	}
	for s, o := range want {
		wantRead(t, s, o, api.OK)
	}
}

func TestReadOfAnotherForm(t *testing.T) {
	wantNone(t, api.ErrForm,
		"", " ", "5", "w", "r", "@", ".", "w ", "ww5", "rw5", "w5w", "w5 ", " w5", "w 5", "w-5", "w+5", "wx", "w5.1", "w5@", "w5@0", "w5@3.2", "W5",
		"r5", "r5@", "r@", "r@0", "r@3.2", "r5.2", "r5@.", "r5@.2", "r5@3.", "r5@0.", "r5@3.2.", "r5@3.2.1", "r5@3@2", "r5@@3", "r5@3.2@", "r.5@3", "r5@3..2",
		"r5@-3.2", "r5@3.-2", "r-5@3.2", "r5@ 3.2", "r5 @3.2", "r5@3 .2", "r5@3. 2", " r5@3.2", "r5@3.2 ", "r5@3.2\n", "r5@3,2", "R5@3.2", "r5@x.2", "r5@3.x", "rx@3.2",
		"x5", "x5@3.2", "\x00", "w\x00", "w5\x00", "\xff", "w\xff", "w5\xff", "w\u0665", "w5\u0665", "w\uff15", "r5\uff203.2", "r5@3\uff0e2", "\uff575",
	)
}

func TestReadOfAnotherFormAheadOfTheNumbers(t *testing.T) {
	wantNone(t, api.ErrForm,
		"w05x", "w99999999999x", "r05@", "r05", "r99999999999", "r99999999999@x", "r05@03.", "r5@99999999999.x", "r05@3.2.1", "r00@0.0x", "r00@x",
	)
}

func TestReadOfNumbersFromTheLeft(t *testing.T) {
	wantNone(t, api.ErrNumber,
		"w05", "w00", "w05000000000000", "r05@3.2", "r5@03.1", "r5@03.2", "r5@3.02", "r5@00", "r5@00.0", "r5@0.00", "r5@3.00", "r00@3.2",
		"r05@99999999999.2", "r5@03.99999999999", "r05@3.99999999999", "r0@03.1", "r5@03",
	)
	wantNone(t, api.ErrRange,
		"w2147483648", "w99999999999", "w18446744073709551621", "r2147483648@0", "r5@2147483648.1", "r5@3.2147483648",
		"r99999999999@03.2", "r99999999999@3.02", "r5@99999999999.02", "r99999999999@0.1", "r99999999999@3", "r5@99999999999", "r5@0.99999999999",
	)
}

func TestReadOfADotInTheWrongPlace(t *testing.T) {
	wantNone(t, api.ErrForm,
		"r5@0.1", "r5@0.0", "r5@3", "r5@1", "r5@0.4095", "r5@0.4096", "r5@1048575", "r5@1048576", "r5@2147483647", "r5@0.2147483647",
		"r0@0.1", "r0@0.0", "r0@3", "r1048576@3", "r1048576@0.1", "r2147483647@1",
	)
}

func TestReadOfNumbersThatMayNotBe(t *testing.T) {
	wantNone(t, api.ErrRange,
		"w0", "w1048576", "w2147483647", "r0@0", "r1048576@0", "r2147483647@0",
		"r0@3.1", "r1048576@3.1", "r5@3.0", "r5@3.4096", "r5@1048576.1", "r5@2147483647.1", "r5@3.2147483647", "r5@1048575.0", "r0@1048576.0",
	)
}

func TestReadHoweverLong(t *testing.T) {
	for _, size := range []int{20, 1000, api.MaxLine, 1 << 20} {
		nines, zeros := strings.Repeat("9", size), strings.Repeat("0", size)
		wantNone(t, api.ErrRange, "w"+nines, "r"+nines+"@0", "r5@"+nines, "r5@"+nines+".1", "r5@3."+nines)
		wantNone(t, api.ErrNumber, "w"+zeros, "r"+zeros+"@"+nines, "r5@"+zeros+"1", "r5@3."+zeros)
		wantNone(t, api.ErrForm, nines, "w"+nines+"x", "r"+nines, "r"+nines+"@"+nines+"."+nines+".", strings.Repeat("w", size), strings.Repeat("r5@3.", size))
	}
}

// form is the document's form of an operation's text.
var form = regexp.MustCompile(`\A(?:w([0-9]+)|r([0-9]+)@([0-9]+)(?:(\.)([0-9]+))?)\z`)

// readBy reads as the document says, error by error.
func readBy(s string) (api.Op, api.Errno) {
	m := form.FindStringSubmatch(s)
	if m == nil {
		return api.Op{}, api.ErrForm
	}
	var n []int
	for _, digits := range []string{m[1], m[2], m[3], m[5]} {
		if digits == "" {
			n = append(n, 0)
			continue
		}
		whole, _ := new(big.Int).SetString(digits, 10)
		if whole.String() != digits {
			return api.Op{}, api.ErrNumber
		}
		if whole.Cmp(big.NewInt(2147483647)) > 0 {
			return api.Op{}, api.ErrRange
		}
		n = append(n, int(whole.Int64()))
	}
	o := writeOf(n[0])
	if s[0] == 'r' {
		o = readOf(n[1], n[2], n[3])
		if m[4] != "" && n[2] == 0 || m[4] == "" && n[2] != 0 {
			return api.Op{}, api.ErrForm
		}
	}
	if !isRight(o) {
		return api.Op{}, api.ErrRange
	}
	return o, api.OK
}

// wantBy holds a text against the document's own words, and tells whether it was read.
func wantBy(t *testing.T, s string) bool {
	t.Helper()
	o, why := readBy(s)
	got, fault := op.Read(s)
	if got != o || fault != why {
		t.Fatalf("Read of %q: %v, %d; want %v, %d", s, got, fault, o, why)
	}
	if why != api.OK {
		return false
	}
	if op.Text(got) != s {
		t.Fatalf("Read of %q has the text %q", s, op.Text(got))
	}
	return true
}

func TestReadOfShortTexts(t *testing.T) {
	texts := []string{""}
	for range 6 {
		for _, s := range texts {
			wantBy(t, s)
		}
		var longer []string
		for _, s := range texts {
			for _, c := range "wr@.03x " {
				longer = append(longer, s+string(c))
			}
		}
		texts = longer
	}
	read := 0
	for _, s := range texts {
		if wantBy(t, s) {
			read++
		}
	}
	// w and five digits, 3 ahead; r3@3.3; r and three digits, 3 ahead, and @0.
	if want := 16 + 1 + 4; read != want {
		t.Errorf("%d texts of six characters were read, want %d", read, want)
	}
}

func TestReadOfAnyBytes(t *testing.T) {
	for a := range 256 {
		for b := range 256 {
			wantBy(t, string([]byte{byte(a), byte(b)}))
			wantBy(t, string([]byte{'w', byte(a), byte(b)}))
			wantBy(t, string([]byte{'r', '5', byte(a), '0', byte(b)}))
			wantBy(t, string([]byte{'r', '5', '@', '3', byte(a), byte(b)}))
		}
	}
}

// 9.3

func TestWhatIsReadHasThatText(t *testing.T) {
	from := rand.New(rand.NewSource(93))
	parts := []string{"w", "r", "@", ".", "0", "1", "5", "03", "4095", "4096", "1048575", "1048576", "2147483647", "2147483648", "-", " "}
	read := 0
	for range 200000 {
		s := parts[from.Intn(2)]
		for range from.Intn(6) {
			s += parts[from.Intn(len(parts))]
		}
		if wantBy(t, s) {
			read++
		}
	}
	if read < 1000 {
		t.Fatalf("%d of 200000 texts were read: too few", read)
	}
}

func TestTheTextOfARightOperationIsReadAsIt(t *testing.T) {
	right := 0
	for _, o := range allOps() {
		s := op.Text(o)
		if op.Right(o) != api.OK {
			continue
		}
		right++
		if got, why := op.Read(s); got != o || why != api.OK {
			t.Fatalf("Read of %q: %v, %d; want %v", s, got, why, o)
		}
	}
	if right < 100 {
		t.Fatalf("%d operations are right: too few", right)
	}
}

func TestAnyRightOperationThereAndBack(t *testing.T) {
	from := rand.New(rand.NewSource(94))
	met := map[string]api.Op{}
	for range 50000 {
		key, tx, nth := 1+from.Intn(api.MaxKey), 1+from.Intn(api.MaxId), 1+from.Intn(api.MaxNth)
		for _, o := range []api.Op{writeOf(key), readOf(key, 0, 0), readOf(key, tx, nth), readOf(key%9+1, tx%9+1, nth%9+1)} {
			s := op.Text(o)
			if was, there := met[s]; there && was != o {
				t.Fatalf("%v and %v have the text %q", was, o, s)
			}
			met[s] = o
			wantRead(t, s, o, api.OK)
		}
	}
}
