package store

import (
	"fmt"
	"math"
	"math/rand"
	"slices"
	"strings"
	"testing"
	"unsafe"

	"winnow/api"
)

// holding is a store with one blob of that name and these bytes: "open", "stopped", "to stop" (its stop has not come) or "out".
func holding(t *testing.T, name, b, state string) *Store {
	t.Helper()
	s := New()
	steps := []call{{kind: "create", name: name}, {kind: "append", name: name, b: b}}
	wants := []string{"0", "0"}
	switch state {
	case "stopped":
		steps = append(steps, call{kind: "stop", name: name, at: 0}, call{kind: "publish", name: name})
		wants = append(wants, "0", "55")
	case "to stop":
		steps, wants = append(steps, call{kind: "stop", name: name, at: 0}), append(wants, "0")
	case "out":
		steps, wants = append(steps, call{kind: "publish", name: name}), append(wants, "0")
	}
	for i, c := range steps {
		if got := c.on(s); got != wants[i] {
			t.Fatalf("a blob to be %s: %v: %s", state, c, got)
		}
	}
	return s
}

// bytesIn tells a blob's bytes, whatever state it is in; the meter does not know.
func bytesIn(s *Store, name string) string {
	if b := s.blobs[name]; b != nil {
		return string(b.bytes)
	}
	return "none"
}

// script makes calls one behind the other, each with what it has to answer.
func script(t *testing.T, s calls, steps []struct {
	call call
	want string
}) {
	t.Helper()
	for i, x := range steps {
		if got := x.call.on(s); got != x.want {
			t.Errorf("%d: %+v: %s, want %s", i, x.call, got, x.want)
		}
	}
}

// answers tells what a store answers to each kind of call that is handed a name.
func answers(s calls, name string) map[string]api.Errno {
	all := map[string]api.Errno{}
	_, all["Read"] = s.Read(name, 0, 1)
	_, all["Size"] = s.Size(name)
	all["StopAt"] = s.StopAt(name, 1)
	all["Flip"] = s.Flip(name, 0, 0)
	all["Resize"] = s.Resize(name, 0)
	all["Append"] = s.Append(name, nil)
	all["Publish"] = s.Publish(name)
	all["Create"] = s.Create(name)
	all["Delete"] = s.Delete(name)
	return all
}

func TestExamples(t *testing.T) {
	s := New()
	script(t, s, []struct {
		call call
		want string
	}{
		{call{kind: "create", name: "a"}, "0"},
		{call{kind: "create", name: "a"}, "51"},
		{call{kind: "append", name: "a", b: "\x01\x02\x03"}, "0"},
		{call{kind: "read", name: "a", n: 9}, " 53"},
		{call{kind: "size", name: "a"}, "0 53"},
		{call{kind: "publish", name: "a"}, "0"},
		{call{kind: "read", name: "a", at: 1, n: 9}, "0203 0"},
		{call{kind: "read", name: "a", at: 3, n: 9}, " 0"},
		{call{kind: "read", name: "a", at: 4, n: 1}, " 56"},
		{call{kind: "append", name: "a", b: "\x04"}, "54"},
		{call{kind: "publish", name: "a"}, "54"},
		{call{kind: "meter"}, "{2 2 2}"},

		{call{kind: "create", name: "A"}, "50"},
		{call{kind: "create", name: ""}, "50"},
		{call{kind: "create", name: strings.Repeat("a", 41)}, "50"},
		{call{kind: "append", name: "b", b: "\x01"}, "52"},

		{call{kind: "create", name: "c"}, "0"},
		{call{kind: "stop", name: "c", at: 4}, "0"},
		{call{kind: "append", name: "c", b: "\x01\x02\x03"}, "0"},
		{call{kind: "append", name: "c", b: "\x04"}, "0"},
		{call{kind: "append", name: "c", b: "\x05"}, "55"},
		{call{kind: "append", name: "c"}, "55"},
		{call{kind: "list", name: "c"}, "[{c 1 4}]"},
		{call{kind: "publish", name: "c"}, "55"},
		{call{kind: "delete", name: "c"}, "0"},

		{call{kind: "create", name: "d"}, "0"},
		{call{kind: "append", name: "d", b: "\x01"}, "0"},
		{call{kind: "stop", name: "d", at: 9}, "0"},
		{call{kind: "publish", name: "d"}, "55"},
		{call{kind: "append", name: "d", b: "\x02"}, "55"},

		{call{kind: "create", name: "e"}, "0"},
		{call{kind: "append", name: "e", b: "\x00\x00"}, "0"},
		{call{kind: "publish", name: "e"}, "0"},
		{call{kind: "flip", name: "e", at: 7, mask: 3}, "0"},
		{call{kind: "read", name: "e", n: 9}, "8001 0"},
		{call{kind: "flip", name: "e", at: 15, mask: 3}, "0"},
		{call{kind: "read", name: "e", n: 9}, "8081 0"},
		{call{kind: "flip", name: "e", at: 16, mask: 1}, "56"},
		{call{kind: "resize", name: "e", at: -2}, "0"},
		{call{kind: "read", name: "e", n: 9}, " 0"},
		{call{kind: "resize", name: "e", at: -1}, "56"},
		{call{kind: "resize", name: "e", at: 3}, "0"},
		{call{kind: "read", name: "e", n: 9}, "000000 0"},
	})
}

// 5.0

func TestNames(t *testing.T) {
	right := "abcdefghijklmnopqrstuvwxyz0123456789.-"
	for c := range 256 {
		want := api.ErrName
		if strings.IndexByte(right, byte(c)) >= 0 {
			want = api.OK
		}
		for _, name := range []string{string([]byte{byte(c)}), "a" + string([]byte{byte(c)}), string([]byte{byte(c)}) + "9", strings.Repeat("x", 39) + string([]byte{byte(c)})} {
			if got := New().Create(name); got != want {
				t.Errorf("Create(%q): %d, want %d", name, got, want)
			}
		}
	}
	for n := range 100 {
		want := api.OK
		if n < 1 || n > 40 {
			want = api.ErrName
		}
		if got := New().Create(strings.Repeat("z", n)); got != want {
			t.Errorf("a name of %d bytes: %d, want %d", n, got, want)
		}
	}
	for _, name := range []string{"ä", "a\x00", "a b", "a/b", "a_b", "a.B", "é.1", strings.Repeat("ä", 20), "\xff", strings.Repeat("x", 1<<20)} {
		if got := New().Create(name); got != api.ErrName {
			t.Errorf("Create(%q): %d", name[:min(len(name), 50)], got)
		}
	}
	for _, name := range []string{".", "-", "..", "a.b-0", right[:38], "0", "-.-"} {
		if got := New().Create(name); got != api.OK {
			t.Errorf("Create(%q): %d", name, got)
		}
	}
}

func TestEachCallLooksAtTheName(t *testing.T) {
	for _, name := range []string{"", "A", "a b", strings.Repeat("a", 41), "\xff"} {
		s := holding(t, "a", "\x01", "out")
		for kind, e := range answers(s, name) {
			if e != api.ErrName {
				t.Errorf("%s(%q): %d", kind, name, e)
			}
		}
		if _, e := s.Read(name, 0, -1); e != api.ErrName {
			t.Errorf("Read(%q) of -1 bytes: %d", name, e)
		}
		if _, e := s.Read(name, -1, 1); e != api.ErrName {
			t.Errorf("Read(%q) at -1: %d", name, e)
		}
		if e := s.Flip(name, -1, 1); e != api.ErrName {
			t.Errorf("Flip(%q) at -1: %d", name, e)
		}
		if e := s.Resize(name, math.MinInt64); e != api.ErrName {
			t.Errorf("Resize(%q): %d", name, e)
		}
		if got := fmt.Sprint(s.List("")); got != "[{a 2 1}]" {
			t.Errorf("behind calls of %q: %s", name, got)
		}
	}
}

func TestANilStore(t *testing.T) {
	var s *Store
	for _, name := range []string{"", "A", "a", strings.Repeat("a", 41)} {
		for kind, e := range answers(s, name) {
			if e != api.ErrNil {
				t.Errorf("%s(%q): %d", kind, name, e)
			}
		}
		if b, e := s.Read(name, -1, -1); len(b) != 0 || e != api.ErrNil {
			t.Errorf("Read(%q) of -1 bytes: %x, %d", name, b, e)
		}
		if list := s.List(name); len(list) != 0 {
			t.Errorf("List(%q): %v", name, list)
		}
	}
	if m := s.Meter(); m != (api.Meter{}) {
		t.Errorf("Meter: %v", m)
	}
}

func TestNoSuchBlob(t *testing.T) {
	s := holding(t, "a", "\x01", "out")
	for kind, e := range answers(s, "b") {
		want := api.ErrNoBlob
		if kind == "Create" || kind == "Delete" { // Delete comes behind Create
			want = api.OK
		}
		if e != want {
			t.Errorf("%s: %d, want %d", kind, e, want)
		}
	}
	if _, e := s.Read("b", -1, 0); e != api.ErrNoBlob {
		t.Errorf("Read at -1: %d", e)
	}
	if e := s.Delete("b"); e != api.ErrNoBlob {
		t.Errorf("Delete: %d", e)
	}
	if e := s.Flip("b", -1, 1); e != api.ErrNoBlob {
		t.Errorf("Flip at -1: %d", e)
	}
	if e := s.Resize("b", math.MaxInt64); e != api.ErrNoBlob {
		t.Errorf("Resize: %d", e)
	}
	for _, n := range []int{-1, math.MinInt} {
		if b, e := s.Read("b", 0, n); len(b) != 0 || e != api.ErrArg {
			t.Errorf("Read of %d bytes: %x, %d", n, b, e)
		}
	}
}

// 5.1, 5.4

func TestCreateAndDelete(t *testing.T) {
	for _, state := range []string{"open", "to stop", "stopped", "out"} {
		s := holding(t, "a", "\x01\x02", state)
		if e := s.Create("a"); e != api.ErrExists {
			t.Errorf("%s: Create: %d", state, e)
		}
		if got := bytesIn(s, "a"); got != "\x01\x02" {
			t.Errorf("%s: behind a Create that was refused: %x", state, got)
		}
		if e := s.Delete("a"); e != api.OK {
			t.Errorf("%s: Delete: %d", state, e)
		}
		if list := s.List(""); len(list) != 0 {
			t.Errorf("%s: behind Delete: %v", state, list)
		}
		script(t, s, []struct {
			call call
			want string
		}{
			{call{kind: "delete", name: "a"}, "52"},
			{call{kind: "read", name: "a", n: 1}, " 52"},
			{call{kind: "size", name: "a"}, "0 52"},
			{call{kind: "append", name: "a"}, "52"},
			{call{kind: "create", name: "a"}, "0"},
			{call{kind: "list"}, "[{a 1 0}]"},
			{call{kind: "read", name: "a", n: 1}, " 53"},
			{call{kind: "append", name: "a", b: "\x07"}, "0"},
			{call{kind: "publish", name: "a"}, "0"},
			{call{kind: "read", name: "a", n: 9}, "07 0"},
		})
	}
}

func TestDeleteLeavesTheOthers(t *testing.T) {
	s := holding(t, "a", "\x01", "out")
	s.Create("ab")
	s.Append("ab", []byte{2})
	if e := s.Delete("a"); e != api.OK || bytesIn(s, "ab") != "\x02" {
		t.Errorf("%d, %v", e, s.List(""))
	}
}

// 5.3

func TestPublish(t *testing.T) {
	for state, want := range map[string]api.Errno{"open": api.OK, "to stop": api.ErrStopped, "stopped": api.ErrStopped, "out": api.ErrOut} {
		for _, b := range []string{"", "\x01\x02"} {
			s := holding(t, "a", b, state)
			if state == "to stop" {
				s = holding(t, "a", b, "open")
				s.StopAt("a", 1<<40)
			}
			if e := s.Publish("a"); e != want {
				t.Errorf("%s: %d", state, e)
			}
			if got := bytesIn(s, "a"); got != b {
				t.Errorf("%s: %x", state, got)
			}
			wantInfo := api.BlobInfo{Name: "a", State: 1, Size: len(b)}
			if want != api.ErrStopped {
				wantInfo.State = 2
			}
			if list := s.List(""); len(list) != 1 || list[0] != wantInfo {
				t.Errorf("%s: %v", state, list)
			}
		}
	}
}

func TestAStopComesByThePublishing(t *testing.T) {
	s := holding(t, "a", "\x01", "open")
	script(t, s, []struct {
		call call
		want string
	}{
		{call{kind: "stop", name: "a", at: 9}, "0"},
		{call{kind: "append", name: "a", b: "\x02"}, "0"},
		{call{kind: "publish", name: "a"}, "55"},
		{call{kind: "append", name: "a"}, "55"},
		{call{kind: "stop", name: "a", at: 20}, "55"},
		{call{kind: "publish", name: "a"}, "55"},
		{call{kind: "read", name: "a", n: 9}, " 53"},
		{call{kind: "list"}, "[{a 1 2}]"},
	})
}

// 5.5, 5.7

func TestReadEdges(t *testing.T) {
	for _, x := range []struct {
		b    string
		at   int64
		n    int
		want string
		e    api.Errno
	}{
		{"", 0, 0, "", api.OK},
		{"", 0, 5, "", api.OK},
		{"", 1, 0, "", api.ErrRange},
		{"", -1, 0, "", api.ErrRange},
		{"abc", 0, 0, "", api.OK},
		{"abc", 0, 1, "a", api.OK},
		{"abc", 0, 3, "abc", api.OK},
		{"abc", 0, 4, "abc", api.OK},
		{"abc", 1, 1, "b", api.OK},
		{"abc", 1, 2, "bc", api.OK},
		{"abc", 2, 2, "c", api.OK},
		{"abc", 2, math.MaxInt, "c", api.OK},
		{"abc", 0, math.MaxInt, "abc", api.OK},
		{"abc", 3, 0, "", api.OK},
		{"abc", 3, 1, "", api.OK},
		{"abc", 3, math.MaxInt, "", api.OK},
		{"abc", 4, 0, "", api.ErrRange},
		{"abc", 4, 1, "", api.ErrRange},
		{"abc", math.MaxInt64, 1, "", api.ErrRange},
		{"abc", math.MaxInt64, math.MaxInt, "", api.ErrRange},
		{"abc", 1 << 32, 1, "", api.ErrRange},
		{"abc", -1, 1, "", api.ErrRange},
		{"abc", -1 << 32, 1, "", api.ErrRange},
		{"abc", math.MinInt64, 1, "", api.ErrRange},
		{"abc", 0, -1, "", api.ErrArg},
		{"abc", 9, -1, "", api.ErrArg},
		{"abc", -1, math.MinInt, "", api.ErrArg},
	} {
		s := holding(t, "a", x.b, "out")
		b, e := s.Read("a", x.at, x.n)
		if string(b) != x.want || e != x.e {
			t.Errorf("Read(%d, %d) of %q: %q, %d", x.at, x.n, x.b, b, e)
		}
		want := api.Meter{}
		if x.e == api.OK {
			want = api.Meter{Reads: 1, Bytes: int64(len(x.want)), Greatest: len(x.want)}
		}
		if m := s.Meter(); m != want {
			t.Errorf("Read(%d, %d) of %q: the meter: %v", x.at, x.n, x.b, m)
		}
		if size, e := s.Size("a"); size != int64(len(x.b)) || e != api.OK {
			t.Errorf("Size of %q: %d, %d", x.b, size, e)
		}
		if m := s.Meter(); m != want {
			t.Errorf("the meter counts Size: %v", m)
		}
	}
}

func TestNothingIsReadAheadOfPublishing(t *testing.T) {
	for _, state := range []string{"open", "to stop", "stopped"} {
		s := holding(t, "a", "\x01\x02", state)
		for _, at := range []int64{-1, 0, 1, 2, 3, math.MaxInt64} {
			for _, n := range []int{0, 1, 9} {
				if b, e := s.Read("a", at, n); len(b) != 0 || e != api.ErrOpen {
					t.Errorf("%s: Read(%d, %d): %x, %d", state, at, n, b, e)
				}
			}
			if b, e := s.Read("a", at, -1); len(b) != 0 || e != api.ErrArg {
				t.Errorf("%s: Read(%d, -1): %x, %d", state, at, b, e)
			}
		}
		if n, e := s.Size("a"); n != 0 || e != api.ErrOpen {
			t.Errorf("%s: Size: %d, %d", state, n, e)
		}
		if m := s.Meter(); m != (api.Meter{}) {
			t.Errorf("%s: the meter: %v", state, m)
		}
	}
}

func TestTheMeterGoesOn(t *testing.T) {
	s := holding(t, "a", "abcdef", "out")
	s.Create("b")
	s.Append("b", []byte("xyz"))
	s.Publish("b")
	want := api.Meter{}
	for i, x := range []struct {
		name string
		n    int
	}{{"a", 2}, {"b", 3}, {"a", 0}, {"a", 5}, {"b", 1}, {"a", 5}, {"b", 3}} {
		s.Read(x.name, 0, x.n)
		want.Reads++
		want.Bytes += int64(x.n)
		want.Greatest = max(want.Greatest, x.n)
		if m := s.Meter(); m != want {
			t.Errorf("%d: %v, want %v", i, m, want)
		}
	}
	s.Delete("a")
	s.Read("a", 0, 1)
	s.Read("b", 9, 1)
	s.Append("b", []byte("xyz"))
	s.List("")
	if m := s.Meter(); m != want {
		t.Errorf("behind what is no reading: %v, want %v", m, want)
	}
	if m := New().Meter(); m != (api.Meter{}) {
		t.Errorf("of a new store: %v", m)
	}
}

// 5.6

func TestList(t *testing.T) {
	s := New()
	names := []string{"b", "a.2", "a", "a.10", "a-1", "ab", "0", ".", "-", "a.1", "z", "9", "aa", "a.2.b", strings.Repeat("a", 40)}
	for i, name := range names {
		s.Create(name)
		s.Append(name, make([]byte, i))
		if i%3 == 0 {
			s.Publish(name)
		}
		if i%3 == 1 {
			s.StopAt(name, 0)
			s.Publish(name)
		}
	}
	for _, x := range []struct {
		prefix string
		want   []string
	}{
		{"", []string{"-", ".", "0", "9", "a", "a-1", "a.1", "a.10", "a.2", "a.2.b", "aa", strings.Repeat("a", 40), "ab", "b", "z"}},
		{"a", []string{"a", "a-1", "a.1", "a.10", "a.2", "a.2.b", "aa", strings.Repeat("a", 40), "ab"}},
		{"a.", []string{"a.1", "a.10", "a.2", "a.2.b"}},
		{"a.2", []string{"a.2", "a.2.b"}},
		{"a.2.", []string{"a.2.b"}},
		{"a.2.b", []string{"a.2.b"}},
		{"a.2.bc", nil},
		{"c", nil},
		{"A", nil},
		{"\xff", nil},
		{"a\x00", nil},
		{strings.Repeat("a", 40), []string{strings.Repeat("a", 40)}},
		{strings.Repeat("a", 41), nil},
	} {
		list := s.List(x.prefix)
		if len(list) != len(x.want) {
			t.Errorf("List(%q): %v", x.prefix, list)
			continue
		}
		for i, info := range list {
			at := slices.Index(names, x.want[i])
			state := 1
			if at%3 == 0 {
				state = 2
			}
			if info != (api.BlobInfo{Name: x.want[i], State: state, Size: at}) {
				t.Errorf("List(%q): %d: %v, want %s", x.prefix, i, info, x.want[i])
			}
		}
	}
	if list := New().List(""); len(list) != 0 {
		t.Errorf("of an empty store: %v", list)
	}
}

func TestListOfMany(t *testing.T) {
	r := rand.New(rand.NewSource(1))
	s, p := New(), &plain{}
	for range 300 {
		name := make([]byte, 1+r.Intn(5))
		for i := range name {
			name[i] = "ab.-09z"[r.Intn(7)]
		}
		s.Create(string(name))
		p.Create(string(name))
	}
	for _, prefix := range []string{"", "a", ".", "-", "0", "ab", "9z", "zz.", "b-b-b"} {
		for range 5 {
			if got, want := fmt.Sprint(s.List(prefix)), fmt.Sprint(p.List(prefix)); got != want {
				t.Fatalf("List(%q): %s, want %s", prefix, got, want)
			}
		}
	}
}

// 5.11

func TestWhatIsAppendedIsNotKept(t *testing.T) {
	whole := []byte("abcdefgh")
	for _, stop := range []int64{-1, 2, 3} {
		s := New()
		s.Create("a")
		if stop >= 0 {
			s.StopAt("a", stop)
		}
		list := whole[:4]
		s.Append("a", list[:3])
		s.Append("a", list[3:])
		want := bytesIn(s, "a")
		for i := range whole {
			whole[i] ^= 0xff
		}
		if got := bytesIn(s, "a"); got != want {
			t.Errorf("a stop at %d: %q, want %q", stop, got, want)
		}
		for i := range whole {
			whole[i] ^= 0xff
		}
		s.Flip("a", 0, math.MaxUint32)
		s.Append("a", []byte("zzzz"))
		s.Resize("a", 2)
		if string(whole) != "abcdefgh" {
			t.Errorf("a stop at %d: what was handed in is changed: %q", stop, whole)
		}
	}
}

func TestANameIsNotKept(t *testing.T) {
	room := []byte("abc")
	s := New()
	s.Create(unsafe.String(&room[0], 3))
	room[1] = 'x'
	if got := fmt.Sprint(s.List("")); got != "[{abc 1 0}]" {
		t.Errorf("List: %s", got)
	}
	if e := s.Publish("abc"); e != api.OK {
		t.Errorf("Publish: %d", e)
	}
}

func TestWhatIsReadIsNewMemory(t *testing.T) {
	s := holding(t, "a", "abcdef", "out")
	for _, x := range []struct {
		at   int64
		n    int
		want string
	}{{0, 6, "abcdef"}, {0, 3, "abc"}, {2, 2, "cd"}, {3, 9, "def"}, {6, 1, ""}, {2, 0, ""}} {
		first, _ := s.Read("a", x.at, x.n)
		second, _ := s.Read("a", x.at, x.n)
		for i := range first {
			first[i] ^= 0xff
		}
		first = append(first, "zzzzzzzzz"...)
		if len(first) != len(x.want)+9 || string(second) != x.want {
			t.Errorf("Read(%d, %d): a second answer shows what was done to the first: %q", x.at, x.n, second)
		}
		if got := bytesIn(s, "a"); got != "abcdef" {
			t.Errorf("Read(%d, %d): the blob shows what was done to an answer: %q", x.at, x.n, got)
		}
	}
	read, _ := s.Read("a", 0, 6)
	s.Flip("a", 0, 1)
	s.Resize("a", -3)
	s.Resize("a", 3)
	s.Delete("a")
	if string(read) != "abcdef" {
		t.Errorf("an answer shows what was done to the blob: %q", read)
	}
}

func TestAListIsNewMemory(t *testing.T) {
	s := holding(t, "a", "abc", "out")
	s.Create("b")
	list := s.List("")
	list[0], list[1] = api.BlobInfo{Name: "z", State: 1, Size: 9}, api.BlobInfo{}
	_ = append(list[:1], api.BlobInfo{}, api.BlobInfo{})
	again := s.List("")
	s.Delete("b")
	s.Resize("a", 1)
	if got := fmt.Sprint(again); got != "[{a 2 3} {b 1 0}]" {
		t.Errorf("%s", got)
	}
	if got := fmt.Sprint(s.List("")); got != "[{a 2 4}]" {
		t.Errorf("%s", got)
	}
}

func TestStoresStandAlone(t *testing.T) {
	a, b := New(), New()
	a.Create("x")
	if e := b.Create("x"); e != api.OK {
		t.Errorf("Create in a second store: %d", e)
	}
	a.Publish("x")
	a.Read("x", 0, 1)
	if _, e := b.Read("x", 0, 1); e != api.ErrOpen || b.Meter() != (api.Meter{}) {
		t.Errorf("%d, %v", e, b.Meter())
	}
}

// All promises by their words

// holds makes a row of calls on both stores, and holds all answers against each other, and all bytes at the end.
func holds(t *testing.T, row []call) {
	s, p := New(), &plain{}
	for i, c := range row {
		if got, want := c.on(s), c.on(p); got != want {
			t.Fatalf("%+v: %s, want %s", row[:i+1], got, want)
		}
	}
	for _, b := range p.blobs {
		if got, want := bytesIn(s, b.name), string(bytesOf(b.bits)); got != want {
			t.Fatalf("%+v: %s: %x, want %x", row, b.name, got, want)
		}
	}
	if got, want := fmt.Sprint(s.List(""), s.Meter()), fmt.Sprint(p.List(""), p.Meter()); got != want {
		t.Fatalf("%+v: %s, want %s", row, got, want)
	}
}

func TestAllShortRowsOfCalls(t *testing.T) {
	kinds := []call{
		{kind: "create"},
		{kind: "append"},
		{kind: "append", b: "\x81"},
		{kind: "append", b: "\x01\x02\x83"},
		{kind: "publish"},
		{kind: "read", at: 1, n: 2},
		{kind: "delete"},
		{kind: "stop", at: -1},
		{kind: "stop", at: 2},
		{kind: "flip", at: 9, mask: 0xfeff},
		{kind: "resize", at: -1},
		{kind: "resize", at: 2},
	}
	for size := range 5 {
		row := make([]int, size)
		for more := true; more; more = step(row, len(kinds)) {
			list := []call{{kind: "create", name: "a"}}
			for _, k := range row {
				c := kinds[k]
				c.name = "a"
				list = append(list, c)
			}
			holds(t, append(list, call{kind: "size", name: "a"}, call{kind: "append", name: "a"}, call{kind: "stop", name: "a", at: 1}, call{kind: "publish", name: "a"}))
		}
	}
}

// step goes to the next row of numbers below kinds; false, if this was the last.
func step(row []int, kinds int) bool {
	for i := range row {
		if row[i]++; row[i] < kinds {
			return true
		}
		row[i] = 0
	}
	return false
}

func TestLongRowsOfCalls(t *testing.T) {
	r := rand.New(rand.NewSource(2))
	for i := range 3000 {
		names := []string{"a", "a.1", "b", "a.1-", strings.Repeat("a", 40), "A"}[:1+r.Intn(6)]
		row := make([]call, 1+i%60)
		for k := range row {
			row[k] = someCall(r, names)
		}
		holds(t, row)
	}
}
