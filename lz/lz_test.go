package lz

import (
	"bytes"
	"math"
	"math/rand"
	"runtime"
	"strings"
	"testing"

	"winnow/api"
	"winnow/nums"
)

// The calls have these signatures, to the letter.
var (
	_ func([]byte) ([]byte, api.Errno)           = Encode
	_ func([]byte, int) ([]byte, api.Errno)      = Decode
	_ func([]byte, int) ([]api.Token, api.Errno) = Tokens
	_ func([]api.Token) ([]byte, api.Errno)      = Write
	_ func([]api.Token) ([]byte, api.Errno)      = Expand
	_ func(int) int                              = Bound
)

// plainExpand goes by the words of section 'Tokens', with numbers of its own.
func plainExpand(ts []api.Token) (string, api.Errno) {
	var text []byte
	for i, t := range ts {
		text = append(text, t.Lit...)
		right := false
		if t.Dist == 0 && t.Len == 0 {
			right = i == len(ts)-1 && len(t.Lit) != 0
		} else if t.Len >= 4 && t.Len <= 259 {
			right = t.Dist >= 1 && t.Dist <= 32768 && t.Dist <= len(text)
		}
		if !right {
			return "", api.ErrToken
		}
		for k := 0; k < t.Len; k++ {
			text = append(text, text[len(text)-t.Dist])
		}
		if len(text) > 65536 {
			return "", api.ErrLong
		}
	}
	return string(text), api.OK
}

// plainBytes are the bytes of a right list.
func plainBytes(ts []api.Token) []byte {
	var b []byte
	for _, t := range ts {
		b = append(b, nums.Put(int64(len(t.Lit)))...)
		b = append(b, t.Lit...)
		if t.Dist != 0 || t.Len != 0 {
			b = append(b, nums.Put(int64(t.Len-4))...)
			b = append(b, nums.Put(int64(t.Dist))...)
		}
	}
	return b
}

// plainLists tells all right lists whose text has n bytes and whose bytes are b: at each token both ways are tried, with a match and without, and what comes out is held against the words.
func plainLists(b []byte, n int) [][]api.Token {
	var found [][]api.Token
	var try func(ahead []api.Token, rest []byte)
	try = func(ahead []api.Token, rest []byte) {
		if len(rest) == 0 {
			if text, e := plainExpand(ahead); e == api.OK && len(text) == n {
				found = append(found, ahead)
			}
			return
		}
		count, size, e := nums.Get(rest)
		if e != api.OK || count > int64(len(rest)-size) {
			return
		}
		lit, rest := rest[size:size+int(count)], rest[size+int(count):]
		ahead = ahead[:len(ahead):len(ahead)]
		try(append(ahead, api.Token{Lit: lit}), rest)
		more, size, e := nums.Get(rest)
		if e != api.OK {
			return
		}
		dist, width, e := nums.Get(rest[size:])
		if e != api.OK || more > 1000 || dist > 100000 {
			return
		}
		try(append(ahead, api.Token{Lit: lit, Dist: int(dist), Len: int(more) + 4}), rest[size+width:])
	}
	try(nil, b)
	return found
}

func tok(lit string, dist, length int) api.Token {
	return api.Token{Lit: []byte(lit), Dist: dist, Len: length}
}

func same(a, b []api.Token) bool {
	if len(a) != len(b) {
		return false
	}
	for i := range a {
		if !bytes.Equal(a[i].Lit, b[i].Lit) || a[i].Dist != b[i].Dist || a[i].Len != b[i].Len {
			return false
		}
	}
	return true
}

func someBytes(r *rand.Rand, n int) []byte {
	b := make([]byte, n)
	r.Read(b)
	return b
}

// letters are bytes of few kinds, which repeat themselves often.
func letters(r *rand.Rand, n, kinds int) []byte {
	b := make([]byte, n)
	for i := range b {
		b[i] = byte('a' + r.Intn(kinds))
	}
	return b
}

// rightList is a right list of some tokens, also such as Encode would not write.
func rightList(r *rand.Rand, count int) []api.Token {
	var ts []api.Token
	have := 0
	for range count {
		lit := letters(r, r.Intn(6), 3)
		if have+len(lit) == 0 {
			lit = []byte("z")
		}
		have += len(lit)
		length := 4 + r.Intn(12)
		if r.Intn(8) == 0 {
			length = 4 + r.Intn(256)
		}
		ts = append(ts, api.Token{Lit: lit, Dist: 1 + r.Intn(min(have, 32768)), Len: length})
		have += length
	}
	if r.Intn(2) == 0 {
		ts = append(ts, api.Token{Lit: letters(r, 1+r.Intn(200), 3)})
	}
	return ts
}

// examples are the rows of the document's table, and one of three matches.
func examples() []struct {
	text string
	ts   []api.Token
	b    []byte
} {
	return []struct {
		text string
		ts   []api.Token
		b    []byte
	}{
		{"", nil, nil},
		{"abc", []api.Token{tok("abc", 0, 0)}, []byte("\x03abc")},
		{"aaaaaa", []api.Token{tok("a", 1, 5)}, []byte("\x01a\x01\x01")},
		{"aaaa", []api.Token{tok("aaaa", 0, 0)}, []byte("\x04aaaa")},
		{"abcdXabcdY", []api.Token{tok("abcdX", 5, 4), tok("Y", 0, 0)}, []byte("\x05abcdX\x00\x05\x01Y")},
		{"abcdabcd", []api.Token{tok("abcd", 4, 4)}, []byte("\x04abcd\x00\x04")},
		{strings.Repeat("a", 600), []api.Token{tok("a", 1, 259), tok("", 1, 259), tok("", 1, 81)}, []byte("\x01a\xff\x01\x01\x00\xff\x01\x01\x00\x4d\x01")},
	}
}

func TestExamples(t *testing.T) {
	for _, c := range examples() {
		if b, e := Encode([]byte(c.text)); e != api.OK || !bytes.Equal(b, c.b) {
			t.Errorf("Encode(%.20q) = %x, %d, want %x", c.text, b, e, c.b)
		}
		if text, e := Decode(c.b, len(c.text)); e != api.OK || string(text) != c.text {
			t.Errorf("Decode(%x, %d) = %q, %d", c.b, len(c.text), text, e)
		}
		if ts, e := Tokens(c.b, len(c.text)); e != api.OK || !same(ts, c.ts) {
			t.Errorf("Tokens(%x, %d) = %v, %d", c.b, len(c.text), ts, e)
		}
		if b, e := Write(c.ts); e != api.OK || !bytes.Equal(b, c.b) {
			t.Errorf("Write(%v) = %x, %d, want %x", c.ts, b, e, c.b)
		}
		if text, e := Expand(c.ts); e != api.OK || string(text) != c.text {
			t.Errorf("Expand(%v) = %q, %d", c.ts, text, e)
		}
	}
}

// 3.1, 3.2

// holdsList holds Expand and Write of a list against what they have to answer.
func holdsList(t *testing.T, name string, ts []api.Token, want api.Errno) {
	t.Helper()
	plain, e := plainExpand(ts)
	if e != want {
		t.Fatalf("%s: the plain reading answers %d, want %d", name, e, want)
	}
	if text, e := Expand(ts); e != want || string(text) != plain {
		t.Errorf("%s: Expand answers %d bytes, %d, want %d bytes, %d", name, len(text), e, len(plain), want)
	}
	var b []byte
	if want == api.OK {
		b = plainBytes(ts)
	}
	if got, e := Write(ts); e != want || !bytes.Equal(got, b) {
		t.Errorf("%s: Write answers %.40x, %d, want %.40x, %d", name, got, e, b, want)
	}
}

func TestListsThatAreRight(t *testing.T) {
	far := string(someBytes(rand.New(rand.NewSource(1)), 40000))
	for name, ts := range map[string][]api.Token{
		"nil":                              nil,
		"empty":                            {},
		"one byte":                         {tok("a", 0, 0)},
		"a match of the least length":      {tok("ab", 2, 4)},
		"a match of the greatest length":   {tok("ab", 2, 259)},
		"the least Dist":                   {tok("abc", 1, 4)},
		"a Dist that is all that stands":   {tok("abcdef", 6, 5)},
		"and that behind a match":          {tok("abc", 2, 4), tok("", 7, 9)},
		"into what it adds itself":         {tok("abc", 3, 100)},
		"without a Lit, last":              {tok("abcd", 4, 4), tok("", 8, 4)},
		"Window":                           {tok(far, 32768, 4)},
		"Window is all that stands":        {tok(far[:32768], 32768, 259)},
		"a last token without a match":     {tok("abcd", 4, 4), tok("x", 0, 0)},
		"a Lit of 127":                     {tok(far[:127], 0, 0)},
		"a Lit of 128":                     {tok(far[:128], 128, 4)},
		"a Lit of 16384":                   {tok(far[:16384], 16384, 131), tok("x", 1, 132)},
		"MaxBlock by a Lit":                {tok(strings.Repeat("x", 65536), 0, 0)},
		"MaxBlock by a match":              {tok(strings.Repeat("xy", 32766), 2, 4)},
		"MaxBlock by a token without room": {tok(strings.Repeat("xy", 32763), 2, 9), tok("z", 0, 0)},
	} {
		holdsList(t, name, ts, api.OK)
	}
}

func TestListsThatAreNot(t *testing.T) {
	far := string(someBytes(rand.New(rand.NewSource(2)), 40000))
	whole := strings.Repeat("x", 65536)
	for name, ts := range map[string][]api.Token{
		"a zero token":                      {{}},
		"a zero token behind others":        {tok("abcd", 4, 4), {}},
		"a zero token ahead of others":      {{}, tok("abcd", 4, 4)},
		"without a match, not the last":     {tok("a", 0, 0), tok("b", 0, 0)},
		"without a match, and one behind":   {tok("abcd", 0, 0), tok("", 4, 4)},
		"a Len below MinMatch":              {tok("abc", 1, 3)},
		"a Len of 0 with a Dist":            {tok("abc", 1, 0)},
		"a Len above MaxMatch":              {tok("abc", 1, 260)},
		"a Dist of 0 with a Len":            {tok("abc", 0, 4)},
		"a Dist above all that stands":      {tok("abc", 4, 4)},
		"nothing stands":                    {tok("", 1, 4)},
		"a Dist above what stood then":      {tok("abc", 4, 9), tok("x", 1, 4)},
		"a Dist above Window":               {tok(far, 32769, 4)},
		"all that stands, above Window":     {tok(far[:32769], 32769, 4)},
		"a Len below 0":                     {tok("abc", 1, -1)},
		"a Dist below 0":                    {tok("abc", -1, 4)},
		"the least numbers":                 {tok("abc", math.MinInt, math.MinInt)},
		"the least Len":                     {tok("abc", 1, math.MinInt)},
		"the greatest Len":                  {tok("abc", 1, math.MaxInt)},
		"the greatest Dist":                 {tok("abc", math.MaxInt, 4)},
		"the greatest numbers":              {tok("abc", math.MaxInt, math.MaxInt)},
		"numbers whose sum is 0":            {tok("abcdefgh", 5, -5)},
		"wrong, ahead of being too long":    {tok(whole, 32769, 4)},
		"not the last, ahead of being long": {tok(whole+"y", 0, 0), tok("z", 0, 0)},
		"wrong, ahead of a token too long":  {tok("a", 2, 4), tok(whole, 1, 4)},
		"behind MaxBlock bytes":             {tok(whole[:65532], 1, 4), {}},
	} {
		holdsList(t, name, ts, api.ErrToken)
	}
}

func TestListsThatAreTooLong(t *testing.T) {
	whole := strings.Repeat("x", 65536)
	var many []api.Token
	for range 300 {
		many = append(many, tok("x", 1, 259))
	}
	for name, ts := range map[string][]api.Token{
		"by a Lit":                   {tok(whole+"y", 0, 0)},
		"by a match":                 {tok(whole[:65533], 1, 4)},
		"by all of a match":          {tok(whole, 1, 4)},
		"a Lit behind MaxBlock":      {tok(whole[:65532], 1, 4), tok("x", 0, 0)},
		"too long, ahead of a wrong": {tok(whole[:65533], 1, 4), {}},
		"by many":                    many,
	} {
		holdsList(t, name, ts, api.ErrLong)
	}
}

func TestListsOfAnyKind(t *testing.T) {
	r := rand.New(rand.NewSource(3))
	counts := map[api.Errno]int{}
	for range 6000 {
		ts := rightList(r, r.Intn(9))
		if r.Intn(40) == 0 {
			ts = rightList(r, 2000+r.Intn(7000))
		}
		if len(ts) > 0 && r.Intn(2) == 0 {
			at := &ts[r.Intn(len(ts))]
			switch r.Intn(4) {
			case 0:
				at.Len = r.Intn(6) - 1
			case 1:
				at.Len = 256 + r.Intn(6)
			case 2:
				at.Dist = r.Intn(60) - 1
			case 3:
				at.Dist, at.Len = 0, 0
			}
		}
		plain, want := plainExpand(ts)
		counts[want]++
		text, e := Expand(ts)
		if e != want || string(text) != plain {
			t.Fatalf("Expand(%v) answers %d bytes, %d, want %d bytes, %d", ts, len(text), e, len(plain), want)
		}
		b, e := Write(ts)
		if e != want || e == api.OK && !bytes.Equal(b, plainBytes(ts)) || e != api.OK && len(b) > 0 {
			t.Fatalf("Write(%v) = %x, %d", ts, b, e)
		}
	}
	if counts[api.OK] < 1000 || counts[api.ErrToken] < 1000 || counts[api.ErrLong] < 10 {
		t.Errorf("not enough of each kind: %v", counts)
	}
}

// 3.3, 3.4

// refuses holds that neither Tokens nor Decode takes b as a text of n bytes.
func refuses(t *testing.T, b []byte, n int, want api.Errno) {
	t.Helper()
	if ts, e := Tokens(b, n); e != want || len(ts) != 0 {
		t.Errorf("Tokens(%.40x, %d) = %d tokens, %d, want %d", b, n, len(ts), e, want)
	}
	if text, e := Decode(b, n); e != want || len(text) != 0 {
		t.Errorf("Decode(%.40x, %d) = %d bytes, %d, want %d", b, n, len(text), e, want)
	}
}

// takes holds that b is a text of the length of this one, by these tokens.
func takes(t *testing.T, b []byte, want string, list []api.Token) {
	t.Helper()
	if ts, e := Tokens(b, len(want)); e != api.OK || !same(ts, list) {
		t.Errorf("Tokens(%.40x, %d) = %d tokens, %d, want %d", b, len(want), len(ts), e, len(list))
	}
	if text, e := Decode(b, len(want)); e != api.OK || string(text) != want {
		t.Errorf("Decode(%.40x, %d) = %d bytes, %d", b, len(want), len(text), e)
	}
}

func TestLengthsOutOfRange(t *testing.T) {
	for _, b := range [][]byte{nil, {}, {0}, []byte("\x01a\x01\x01"), {0x80}, {0x80, 0}, bytes.Repeat([]byte{0xff}, 20)} {
		for _, n := range []int{-1, -2, math.MinInt, 65537, 65538, math.MaxInt32, math.MaxInt} {
			refuses(t, b, n, api.ErrArg)
		}
	}
}

func TestBytesThatTellNothing(t *testing.T) {
	far := string(someBytes(rand.New(rand.NewSource(4)), 40000))
	long := string(nums.Put(40000)) + far
	for name, c := range map[string]struct {
		b string
		n int
	}{
		"none, of some":                       {"", 1},
		"none, of many":                       {"", 65536},
		"a token without bytes, of none":      {"\x00", 0},
		"a byte, of none":                     {"\x01a", 0},
		"a match, of none":                    {"\x00\x00\x01", 0},
		"nothing stands ahead":                {"\x00\x00\x01", 4},
		"one byte less than it tells":         {"\x01a\x01\x01", 5},
		"one byte more than it tells":         {"\x01a\x01\x01", 7},
		"the Lit alone":                       {"\x01a\x01\x01", 1},
		"a Dist of 0":                         {"\x01a\x01\x00", 6},
		"a Dist above all that stands":        {"\x01a\x01\x02", 6},
		"a Dist above Window":                 {long + "\x00\x81\x80\x02", 40004},
		"a Len above MaxMatch":                {"\x01a\x80\x02\x01", 261},
		"a match that passes n":               {"\x01a\x02\x01", 6},
		"a match where one byte is left":      {"\x01a\x00\x01", 2},
		"a match where three bytes are left":  {"\x01a\x00\x01", 4},
		"a Lit that passes n":                 {"\x03abc", 2},
		"a Lit behind n bytes":                {"\x01a\x01\x01\x01b", 6},
		"a token without bytes behind n":      {"\x01a\x01\x01\x00", 6},
		"a match behind n bytes":              {"\x01a\x01\x01\x00\x00\x01", 6},
		"bytes behind the last Lit":           {"\x03abcd", 3},
		"a zero behind the last Lit":          {"\x03abc\x00", 3},
		"a Lit that is not all there":         {"\x03ab", 3},
		"a number that is not all there":      {"\x80", 128},
		"no match behind a Lit":               {"\x03abc", 9},
		"no Dist behind a Len":                {"\x03abc\x00", 7},
		"a Dist that is not all there":        {"\x03abc\x00\x80", 7},
		"a Len that is not all there":         {"\x03abc\x80", 131},
		"a count that is not short":           {"\x81\x00a\x01\x01", 6},
		"a Len that is not short":             {"\x01a\x81\x00\x01", 6},
		"a Dist that is not short":            {"\x01a\x01\x81\x00", 6},
		"the greatest count":                  {"\xff\xff\xff\xff\xff\xff\xff\xff\x7fa", 65536},
		"a count beyond all":                  {"\xff\xff\xff\xff\xff\xff\xff\xff\xffa", 65536},
		"the greatest Len":                    {"\x01a\xff\xff\xff\xff\xff\xff\xff\xff\x7f\x01", 65536},
		"the greatest Dist":                   {"\x01a\x01\xff\xff\xff\xff\xff\xff\xff\xff\x7f", 6},
		"a Len whose sum with MinMatch wraps": {"\x01a\xfc\xff\xff\xff\xff\xff\xff\xff\x7f\x01", 1},
	} {
		refuses(t, []byte(c.b), c.n, api.ErrLz)
		if found := plainLists([]byte(c.b), c.n); len(found) > 0 {
			t.Errorf("%s: there is such a list: %v", name, found)
		}
	}
}

func TestBytesThatEncodeWouldNotWrite(t *testing.T) {
	far := string(someBytes(rand.New(rand.NewSource(5)), 40000))
	for name, ts := range map[string][]api.Token{
		"the document's":                {tok("aa", 2, 4)},
		"a Lit that repeats itself":     {tok("abcdabcdabcd", 0, 0)},
		"matches that do not pay":       {tok(far[:200], 200, 4), tok("", 128, 4), tok(far[:20000], 16384, 5)},
		"a match that is not the first": {tok("abcdabcd", 8, 4), tok("", 4, 4)},
		"Window":                        {tok(far, 32768, 4)},
		"MaxBlock":                      {tok(strings.Repeat("x", 65532), 1, 4)},
		"MaxBlock by a Lit":             {tok(strings.Repeat("x", 65536), 0, 0)},
	} {
		text, e := plainExpand(ts)
		if e != api.OK {
			t.Fatalf("%s: %d", name, e)
		}
		takes(t, plainBytes(ts), text, ts)
		if b, _ := Encode([]byte(text)); bytes.Equal(b, plainBytes(ts)) {
			t.Errorf("%s: Encode writes it", name)
		}
	}
}

// All rows of a few bytes, and all lengths that they could have, against the search through all lists.
func TestAllShortRows(t *testing.T) {
	kinds := []byte{0, 1, 2, 3, 5, 0x80, 0x81}
	told := 0
	for size := range 7 {
		row := make([]int, size)
		for {
			b := make([]byte, size)
			for i, k := range row {
				b[i] = kinds[k]
			}
			for n := range 16 {
				found := plainLists(b, n)
				ts, e := Tokens(b, n)
				text, f := Decode(b, n)
				switch {
				case len(found) > 1:
					t.Fatalf("%x, %d: two lists: %v", b, n, found)
				case len(found) == 0:
					if e != api.ErrLz || f != api.ErrLz || len(ts) != 0 || len(text) != 0 {
						t.Fatalf("%x, %d: %v, %d, %x, %d, want ErrLz", b, n, ts, e, text, f)
					}
				default:
					told++
					want, _ := plainExpand(found[0])
					if e != api.OK || f != api.OK || !same(ts, found[0]) || string(text) != want {
						t.Fatalf("%x, %d: %v, %d, %x, %d, want %v, %x", b, n, ts, e, text, f, found[0], want)
					}
				}
			}
			if !step(row, len(kinds)) {
				break
			}
		}
	}
	if told < 100 {
		t.Errorf("only %d rows tell a text", told)
	}
}

// step goes to the next row, and tells whether there is one.
func step(row []int, kinds int) bool {
	for i := range row {
		row[i]++
		if row[i] < kinds {
			return true
		}
		row[i] = 0
	}
	return false
}

func TestTokensOfRightLists(t *testing.T) {
	r := rand.New(rand.NewSource(6))
	for range 3000 {
		ts := rightList(r, r.Intn(12))
		text, e := plainExpand(ts)
		if e != api.OK {
			t.Fatal(e)
		}
		b := plainBytes(ts)
		takes(t, b, text, ts)
		for _, n := range []int{len(text) - 1, len(text) + 1, len(text) + 4, 65536} {
			if n >= 0 {
				refuses(t, b, n, api.ErrLz)
			}
		}
		refuses(t, append(bytes.Clone(b), byte(r.Intn(256))), len(text), api.ErrLz)
		if len(b) > 0 {
			refuses(t, b[:r.Intn(len(b))], len(text), api.ErrLz)
		}
	}
}

// What lies behind the end of a list is no part of it.
func TestRoomIsNotRead(t *testing.T) {
	whole := []byte("\x05abcdX\x00\x05\x01Y")
	for size := range len(whole) {
		for n := range 12 {
			text, e := Decode(whole[:size], n)
			want, f := Decode(bytes.Clone(whole[:size]), n)
			if e != f || !bytes.Equal(text, want) {
				t.Errorf("the first %d bytes, %d: %q, %d, without room %q, %d", size, n, text, e, want, f)
			}
		}
	}
	text := []byte("abcdabcdabcd")
	if b, e := Encode(text[:6]); e != api.OK || string(b) != "\x06abcdab" {
		t.Errorf("Encode = %x, %d", b, e)
	}
	lit := []byte("abcd")
	if b, e := Expand([]api.Token{{Lit: lit[:2]}}); e != api.OK || string(b) != "ab" {
		t.Errorf("Expand = %q, %d", b, e)
	}
}

// 3.6

func TestBound(t *testing.T) {
	for n := -3; n < 65600; n++ {
		want := 0
		if n >= 1 && n <= 127 {
			want = n + 1
		} else if n >= 128 && n <= 16383 {
			want = n + 2
		} else if n >= 16384 && n <= 65536 {
			want = n + 5
		}
		if got := Bound(n); got != want {
			t.Fatalf("Bound(%d) = %d, want %d", n, got, want)
		}
	}
	for _, n := range []int{math.MinInt, math.MaxInt, -65536, math.MaxInt32} {
		if got := Bound(n); got != 0 {
			t.Errorf("Bound(%d) = %d, want 0", n, got)
		}
	}
}

// 3.7

// roomy tells b in a list that has room behind its end, and the whole of that list.
func roomy(b []byte) (list, whole []byte) {
	whole = append(append([]byte{}, b...), "behind the end"...)
	return whole[:len(b)], whole
}

// spoil writes over a list and all its room.
func spoil(b []byte) {
	b = b[:cap(b)]
	for i := range b {
		b[i] ^= 0xff
	}
}

func someTexts(r *rand.Rand) [][]byte {
	out := [][]byte{nil, []byte("a"), []byte("abcdXabcdY"), bytes.Repeat([]byte("a"), 700)}
	for range 40 {
		out = append(out, letters(r, r.Intn(400), 1+r.Intn(4)), someBytes(r, r.Intn(200)))
	}
	return out
}

func TestTextsAreNeitherChangedNorKept(t *testing.T) {
	for _, text := range someTexts(rand.New(rand.NewSource(7))) {
		in, whole := roomy(text)
		before := string(whole)
		b, _ := Encode(in)
		told := string(b)
		if string(whole) != before {
			t.Fatalf("Encode(%q) changes what it is given", text)
		}
		spoil(in)
		if string(b) != told {
			t.Fatalf("Encode(%q) keeps what it is given", text)
		}
		spoil(b)
		if again, _ := Encode(text); string(again) != told {
			t.Fatalf("Encode(%q) = %x, and later %x", text, told, again)
		}
	}
}

func TestBytesAreNeitherChangedNorKept(t *testing.T) {
	for _, text := range someTexts(rand.New(rand.NewSource(8))) {
		b, _ := Encode(text)
		in, whole := roomy(b)
		before := string(whole)
		ts, _ := Tokens(in, len(text))
		got, _ := Decode(in, len(text))
		Decode(in, len(text)+1)
		Tokens(in[:len(in)/2], len(text))
		if string(whole) != before {
			t.Fatalf("%x: what was given is changed", b)
		}
		spoil(in)
		if again, _ := Tokens(b, len(text)); !same(ts, again) || !bytes.Equal(got, text) {
			t.Fatalf("%x: what was given is kept", b)
		}
		spoil(got)
		for i := range ts {
			spoil(ts[i].Lit)
			ts[i].Dist++
		}
		again, _ := Tokens(b, len(text))
		got, _ = Decode(b, len(text))
		if !bytes.Equal(plainBytes(again), b) || !bytes.Equal(got, text) {
			t.Fatalf("%x: what was handed out is shown again", b)
		}
	}
}

func TestTokensAreNeitherChangedNorKept(t *testing.T) {
	r := rand.New(rand.NewSource(9))
	for range 300 {
		plain := rightList(r, r.Intn(8))
		want, _ := plainExpand(plain)
		wantBytes := string(plainBytes(plain))
		in := make([]api.Token, len(plain), len(plain)+1)
		wholes := make([][]byte, len(plain))
		befores := make([]string, len(plain))
		for i, p := range plain {
			lit, whole := roomy(p.Lit)
			in[i] = api.Token{Lit: lit, Dist: p.Dist, Len: p.Len}
			wholes[i], befores[i] = whole, string(whole)
		}
		in[:cap(in)][len(in)] = tok("room", 7, 8)
		text, _ := Expand(in)
		b, _ := Write(in)
		for i := range wholes {
			if string(wholes[i]) != befores[i] {
				t.Fatalf("%v: a Lit is changed", plain)
			}
		}
		if !same(in, plain) || !same(in[:cap(in)][len(in):], []api.Token{tok("room", 7, 8)}) {
			t.Fatalf("%v: the list is changed", plain)
		}
		for i := range wholes {
			spoil(wholes[i])
		}
		if string(text) != want || string(b) != wantBytes {
			t.Fatalf("%v: a Lit is kept", plain)
		}
		spoil(text)
		spoil(b)
		text, _ = Expand(plain)
		b, _ = Write(plain)
		if string(text) != want || string(b) != wantBytes {
			t.Fatalf("%v: what was handed out is shown again", plain)
		}
	}
}

// A Lit's bytes may be written over, and appended to, up to the end of its room, and no other Lit shows it.
func TestNoTwoLitsShareMemory(t *testing.T) {
	r := rand.New(rand.NewSource(10))
	for range 200 {
		plain := rightList(r, 1+r.Intn(20))
		text, _ := plainExpand(plain)
		b := plainBytes(plain)
		for i := range plain {
			ts, e := Tokens(b, len(text))
			if e != api.OK {
				t.Fatal(e)
			}
			spoil(ts[i].Lit)
			if len(plain[i].Lit) > 0 {
				ts[i].Lit = append(ts[i].Lit, "much more than it had"...)
			}
			ts[i].Lit = plain[i].Lit
			if !same(ts, plain) || !bytes.Equal(b, plainBytes(plain)) {
				t.Fatalf("%v: another one shows what is done to the Lit %d", plain, i)
			}
		}
	}
}

// 'What follows'

func TestWriteOfTokens(t *testing.T) {
	r := rand.New(rand.NewSource(11))
	taken := 0
	for range 60000 {
		b := plainBytes(rightList(r, r.Intn(4)))
		for range r.Intn(3) {
			if len(b) > 0 {
				b[r.Intn(len(b))] = byte(r.Intn(8))
			}
		}
		for _, n := range []int{r.Intn(20), r.Intn(60), r.Intn(300)} {
			ts, e := Tokens(b, n)
			if e != api.OK {
				continue
			}
			taken++
			if again, f := Write(ts); f != api.OK || !bytes.Equal(again, b) {
				t.Fatalf("Write(Tokens(%x, %d)) = %x, %d", b, n, again, f)
			}
			if text, f := Expand(ts); f != api.OK || len(text) != n {
				t.Fatalf("Expand(Tokens(%x, %d)) has %d bytes, %d", b, n, len(text), f)
			}
		}
	}
	if taken < 1000 {
		t.Errorf("only %d were taken", taken)
	}
}

func TestDecodeOfAnyBytes(t *testing.T) {
	r := rand.New(rand.NewSource(12))
	taken := 0
	for range 60000 {
		b := someBytes(r, r.Intn(30))
		for i := range b {
			if r.Intn(3) > 0 {
				b[i] &= 3
			}
		}
		if r.Intn(2) == 0 {
			b = plainBytes(rightList(r, r.Intn(5)))
			for range r.Intn(3) {
				if len(b) > 0 {
					b[r.Intn(len(b))] ^= 1 << r.Intn(8)
				}
			}
		}
		for _, n := range []int{0, 1, r.Intn(12), r.Intn(100), r.Intn(600), r.Intn(65537), 65536} {
			text, e := Decode(b, n)
			ts, f := Tokens(b, n)
			if e != f || e != api.OK && e != api.ErrLz || e != api.OK && len(text)+len(ts) > 0 {
				t.Fatalf("%x, %d: %d bytes, %d, %d tokens, %d", b, n, len(text), e, len(ts), f)
			}
			if e != api.OK {
				continue
			}
			taken++
			if want, g := plainExpand(ts); len(text) != n || string(text) != want || g != api.OK {
				t.Fatalf("Decode(%x, %d) = %q, want %q", b, n, text, want)
			}
			if n > 65*len(b) {
				t.Fatalf("%d bytes tell %d", len(b), n)
			}
		}
	}
	if taken < 1000 {
		t.Errorf("only %d were taken", taken)
	}
}

// made tells how many bytes of memory a call takes, on the average.
func made(call func()) int {
	const times = 50
	var before, behind runtime.MemStats
	runtime.ReadMemStats(&before)
	for range times {
		call()
	}
	runtime.ReadMemStats(&behind)
	return int(behind.TotalAlloc-before.TotalAlloc) / times
}

// However much the bytes tell, no more is made than was asked for (with some room for what the runtime rounds up and does beside).
func TestNoMoreThanNBytesAreMade(t *testing.T) {
	matches := []byte("\x01a")
	for range 200 {
		matches = append(matches, "\xff\x01\x01\x00"...)
	}
	long := append(nums.Put(65536), make([]byte, 65536)...)
	huge := make([]byte, 1<<20)
	for name, b := range map[string][]byte{"matches": matches, "a long Lit": long, "many bytes": huge, "a claim": nums.Put(math.MaxInt64)} {
		for _, n := range []int{0, 1, 10, 300, 5000} {
			if got := made(func() { Decode(b, n) }); got > n+n/4+1024 {
				t.Errorf("%s: Decode of %d bytes makes %d", name, n, got)
			}
		}
	}
}

// The most that bytes can tell: matches of the greatest length, with numbers of one byte where there may be one.
func TestMostOfAByte(t *testing.T) {
	for _, length := range []int{131, 132, 259} {
		ts := []api.Token{tok("a", 1, length)}
		for n := 1 + length; n+length <= api.MaxBlock; n += length {
			ts = append(ts, tok("", 1, length))
			b := plainBytes(ts)
			if len(ts)%50 != 0 {
				continue
			}
			if text, e := Decode(b, n+length); e != api.OK || len(text) > 65*len(b) {
				t.Fatalf("%d bytes tell %d, %d", len(b), len(text), e)
			}
		}
	}
	for size := range 40 {
		for _, c := range []byte{0, 1, 0x7f, 0xff} {
			b := bytes.Repeat([]byte{c}, size)
			refuses(t, b, 65*size+1, api.ErrLz)
		}
	}
}
