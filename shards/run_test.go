package shards_test

import (
	"math/rand"
	"slices"
	"strings"
	"testing"

	"shards/api"
	"shards/shards"
)

const example11 = "XP\x02\x02\x01\x05\x00\x01\x04\x00\x02\x04\x01\x01\x02\x04\x00\x03\x00\x02\x03\x01"

// counted: P11's program, told in its own words; nil if the text is none.
func counted(text string) []int {
	if len(text) < 7 || text[0] != 'X' || text[1] != 'P' {
		return nil
	}
	given, out, besides, ops := int(text[2]), int(text[3]), int(text[4]), int(text[5])+256*int(text[6])
	if given > 48 || out > 40 || besides > 16 || ops > 2048 || len(text) != 7+3*ops {
		return nil
	}
	stands := map[int]bool{}
	for i := range given {
		stands[i] = true
	}
	xors := 0
	for text = text[7:]; text != ""; text = text[3:] {
		kind, to, from := text[0], int(text[1]), int(text[2])
		good := false
		switch kind {
		case 0:
			good = from == 0
		case 1:
			good = stands[from]
		case 2:
			good = stands[from] && stands[to]
			xors++
		}
		if !good || to < given || to >= given+out+besides {
			return nil
		}
		stands[to] = true
	}
	for i := range out {
		if !stands[given+i] {
			return nil
		}
	}
	return []int{given, out, besides, xors}
}

// ran: what a program that is one gives, a byte at a time.
func ran(text string, in [][]byte) [][]byte {
	given, out := int(text[2]), int(text[3])
	size := 0
	if len(in) > 0 {
		size = len(in[0])
	}
	l := blank(out, size)
	for place := range size {
		var registers [104]byte
		for i, b := range in {
			registers[i] = b[place]
		}
		for rest := text[7:]; rest != ""; rest = rest[3:] {
			switch rest[0] {
			case 0:
				registers[rest[1]] = 0
			case 1:
				registers[rest[1]] = registers[rest[2]]
			case 2:
				registers[rest[1]] ^= registers[rest[2]]
			}
		}
		for i := range l {
			l[i][place] = registers[given+i]
		}
	}
	return l
}

// registers: so many of so many bytes.
func registers(count, size int) [][]byte {
	l := make([][]byte, count)
	for i := range l {
		l[i] = other(size, 3*i)
	}
	return l
}

// judge: Count and Run answer of a text what the document says.
func judge(t *testing.T, text string, size int) {
	t.Helper()
	want := counted(text)
	l, e := shards.Count(text)
	if want == nil {
		if l != nil || e != api.ErrProgram {
			t.Errorf("P11: Count(%q) = %v, %d, want %d", text, l, e, api.ErrProgram)
		}
		for _, in := range [][][]byte{nil, registers(1, 49), registers(2, size)} {
			if out, e := shards.Run(text, in); out != nil || e != api.ErrProgram {
				t.Errorf("P11: Run(%q, %x) = %x, %d, want %d", text, in, out, e, api.ErrProgram)
			}
		}
		return
	}
	if e != api.OK || !slices.Equal(l, want) {
		t.Errorf("P11: Count(%q) = %v, %d, want %v", text, l, e, want)
	}
	in := registers(want[0], size)
	if out := run(t, text, in); !same(out, ran(text, in)) {
		t.Errorf("P11: Run(%q, %x) = %x, want %x", text, in, out, ran(text, in))
	}
}

func TestP11Example(t *testing.T) {
	if l := count(t, example11); !slices.Equal(l, []int{2, 2, 1, 2}) {
		t.Errorf("P11: Count = %v", l)
	}
	if out := run(t, example11, [][]byte{[]byte("ab"), []byte("cd")}); !same(out, [][]byte{{2, 6}, []byte("cd")}) {
		t.Errorf("P11: Run = %q", out)
	}
}

func TestP11OneByteTurned(t *testing.T) {
	x := coder(t, api.Spec{Kind: api.EvenOdd, K: 3, M: 2, N: 3}, plain)
	for _, good := range []string{example11, programOf(t, x, nil), programOf(t, x, []int{0, 1}), "XP\x00\x00\x00\x00\x00"} {
		judge(t, good, 2)
		for i := range good {
			for b := range 256 {
				judge(t, good[:i]+string([]byte{byte(b)})+good[i+1:], 1)
			}
			judge(t, good[:i], 1)
			judge(t, good[i+1:], 1)
			judge(t, good[:i]+good[i+1:], 1)
			judge(t, good[:i]+"\x00"+good[i:], 1)
		}
		for _, behind := range []string{"\x00", "\x01", "\x00\x02\x00", "XP", good} {
			judge(t, good+behind, 1)
		}
	}
}

// Every program of up to two operations on few registers, with kinds and registers that there are not.
func TestP11SmallPrograms(t *testing.T) {
	var ops []string
	for kind := range 4 {
		for to := range 5 {
			for from := range 5 {
				ops = append(ops, string([]byte{byte(kind), byte(to), byte(from)}))
			}
		}
	}
	good := 0
	check := func(head string, list ...string) {
		text := "XP" + head + string([]byte{byte(len(list)), 0}) + strings.Join(list, "")
		if counted(text) != nil {
			good++
		}
		judge(t, text, 1)
	}
	for _, head := range []string{"\x00\x00\x00", "\x00\x01\x00", "\x00\x01\x01", "\x00\x02\x00", "\x01\x00\x01", "\x01\x01\x00", "\x01\x01\x01", "\x02\x01\x00", "\x02\x01\x01", "\x01\x02\x00", "\x02\x02\x00"} {
		check(head)
		for _, a := range ops {
			check(head, a)
			for _, b := range ops {
				check(head, a, b)
			}
		}
	}
	if good < 100 {
		t.Errorf("P11: %d of the texts are programs", good)
	}
}

// some: a program of so many operations, mostly such as may stand.
func some(r *rand.Rand, given, out, besides, ops int) string {
	text := []byte{'X', 'P', byte(given), byte(out), byte(besides), byte(ops), byte(ops >> 8)}
	filled := given
	for i := range ops {
		to := given + r.Intn(out+besides)
		if i < out+besides {
			to = given + i
		}
		kind := r.Intn(3)
		if to >= filled {
			kind = r.Intn(2)
		}
		from := 0
		if kind > 0 {
			from = r.Intn(filled)
		}
		filled = max(filled, to+1)
		text = append(text, byte(kind), byte(to), byte(from))
	}
	return string(text)
}

func TestP11LongPrograms(t *testing.T) {
	r := rand.New(rand.NewSource(11))
	for i := range 2000 {
		given, out, besides := 1+r.Intn(48), 1+r.Intn(40), r.Intn(17)
		ops := out + besides + r.Intn(200)
		text := some(r, given, out, besides, ops)
		if counted(text) == nil {
			t.Fatalf("P11: %q is no program", text)
		}
		judge(t, text, i%49)
		turned := []byte(text)
		turned[r.Intn(len(text))] = byte(r.Intn(110))
		judge(t, string(turned), 1)
	}
}

func TestP11Bounds(t *testing.T) {
	r := rand.New(rand.NewSource(12))
	greatest := some(r, 48, 40, 16, 2048)
	if l := count(t, greatest); l[0] != 48 || l[1] != 40 || l[2] != 16 {
		t.Errorf("P11: Count of the greatest program = %v", l)
	}
	judge(t, greatest, 48)
	for at, b := range map[int]byte{2: 49, 3: 41, 4: 17} {
		turned := []byte(greatest)
		turned[at] = b
		judge(t, string(turned), 48)
		head := []byte("XP\x00\x00\x00\x00\x00")
		head[at] = b
		judge(t, string(head), 48)
	}
	more := greatest + "\x00\x30\x00"
	judge(t, more, 1)
	judge(t, more[:5]+"\x01\x08"+more[7:], 1)
	judge(t, greatest[:5]+"\x08\x00"+greatest[7:], 1)
	judge(t, greatest[:5]+"\xff\xff"+greatest[7:], 1)
	judge(t, "XP\x00\x00\x01\xff\x07"+strings.Repeat("\x00\x00\x00", 2047), 0)
	judge(t, "XP\x00\x00\x01\x00\x08"+strings.Repeat("\x00\x00\x00", 2048), 0)
	judge(t, "XP\x00\x00\x01\x01\x08"+strings.Repeat("\x00\x00\x00", 2049), 0)
	judge(t, "XP\x00\x00\x01\xff\xff"+strings.Repeat("\x00\x00\x00", 65535), 0)
	judge(t, "XP\x30\x00\x00\x00\x00", 48)
	judge(t, "XP\x00\x00\x10\x00\x00", 48)
}

// The rules that the document names, one by one.
func TestP11Rules(t *testing.T) {
	for what, text := range map[string]string{
		"noughts with another register":         "XP\x01\x01\x00\x01\x00\x00\x01\x01",
		"a copy of a register that is empty":    "XP\x01\x01\x01\x02\x00\x01\x01\x02\x01\x02\x00",
		"a copy of itself, empty":               "XP\x01\x01\x00\x01\x00\x01\x01\x01",
		"something added to an empty register":  "XP\x01\x01\x00\x01\x00\x02\x01\x00",
		"an empty register added":               "XP\x01\x01\x01\x02\x00\x01\x01\x00\x02\x01\x02",
		"a given register becomes noughts":      "XP\x01\x01\x00\x02\x00\x01\x01\x00\x00\x00\x00",
		"a given register becomes a copy":       "XP\x01\x01\x00\x02\x00\x01\x01\x00\x01\x00\x01",
		"a given register is added to":          "XP\x01\x01\x00\x02\x00\x01\x01\x00\x02\x00\x01",
		"a register that there is not, written": "XP\x01\x01\x00\x02\x00\x01\x01\x00\x01\x02\x00",
		"a register that there is not, read":    "XP\x01\x01\x00\x01\x00\x01\x01\x02",
		"nothing comes out":                     "XP\x01\x01\x00\x00\x00",
		"one of two is empty":                   "XP\x01\x02\x00\x01\x00\x01\x02\x00",
		"an operation that there is not":        "XP\x01\x01\x00\x02\x00\x01\x01\x00\x03\x01\x00",
		"fewer operations than told":            "XP\x01\x01\x00\x02\x00\x01\x01\x00",
		"more operations than told":             "XP\x01\x01\x00\x01\x00\x01\x01\x00\x01\x01\x00",
	} {
		if counted(text) != nil {
			t.Errorf("P11: %s: the test itself has this as a program", what)
		}
		judge(t, text, 1)
	}
	for what, text := range map[string]string{
		"a copy of itself":               "XP\x01\x01\x00\x02\x00\x01\x01\x00\x01\x01\x01",
		"added to itself":                "XP\x01\x01\x00\x02\x00\x01\x01\x00\x02\x01\x01",
		"a register besides stays empty": "XP\x01\x01\x02\x01\x00\x01\x01\x00",
		"what comes out is read":         "XP\x01\x02\x00\x02\x00\x01\x01\x00\x01\x02\x01",
		"written twice":                  "XP\x02\x01\x00\x02\x00\x01\x02\x00\x01\x02\x01",
		"nothing at all":                 "XP\x00\x00\x00\x00\x00",
		"nothing but given":              "XP\x03\x00\x00\x00\x00",
		"noughts out of nothing":         "XP\x00\x01\x00\x01\x00\x00\x00\x00",
	} {
		if counted(text) == nil {
			t.Errorf("P11: %s: the test itself has this as no program", what)
		}
		for _, size := range []int{0, 1, 48} {
			judge(t, text, size)
		}
	}
}

func TestP11Shapes(t *testing.T) {
	check := func(text string, in [][]byte) {
		t.Helper()
		if out, e := shards.Run(text, in); out != nil || e != api.ErrShape {
			t.Errorf("P11: Run(%q, %x) = %x, %d", text, in, out, e)
		}
	}
	for given := range api.MaxIn + 1 {
		text := "XP" + string([]byte{byte(given), 1, 0, 1, 0, 0, byte(given), 0})
		for count := range api.MaxIn + 3 {
			if count != given {
				check(text, blank(count, 1))
				check(text, blank(count, 0))
			}
		}
		for size := range 49 {
			size = min(size, given*48)
			if out := run(t, text, registers(given, size)); !same(out, blank(1, size)) {
				t.Errorf("P11: Run(%q) over %d registers of %d = %x", text, given, size, out)
			}
		}
		for i := range given {
			check(text, blank(given, 49))
			check(text, blank(given, 1000))
			for _, size := range []int{0, 1, 2, 48} {
				for _, length := range []int{0, 1, 47, 48, 49} {
					in := blank(given, size)
					in[i] = make([]byte, length)
					if length > 48 || given > 1 && length != size {
						check(text, in)
					}
				}
			}
		}
	}
}

// Of errors the first that applies is told: of the program, of the registers.
func TestP11ErrorsInOrder(t *testing.T) {
	for _, in := range [][][]byte{nil, blank(1, 1), blank(2, 49), registers(2, 2), blank(100, 100)} {
		for _, text := range []string{"", "XP", example11[1:], example11 + " ", example11[:21]} {
			if out, e := shards.Run(text, in); out != nil || e != api.ErrProgram {
				t.Errorf("P11: Run(%q, %x) = %x, %d", text, in, out, e)
			}
		}
	}
}

func TestP11RunAsReconstruct(t *testing.T) {
	for _, c := range examples {
		whole := append(shardsOf(c.data), shardsOf(c.parity)...)
		for level := range 4 {
			x := coder(t, c.s, api.Settings{Level: level, Scratch: 4, Block: 1})
			out := run(t, programOf(t, x, nil), cut(c.s, whole[:c.s.K]))
			if !same(out, cut(c.s, whole[c.s.K:])) {
				t.Errorf("P10: %+v of %s = %x, want %s", c.s, c.data, out, c.parity)
			}
			out = run(t, programOf(t, x, []int{1, 0}), cut(c.s, whole[2:2+c.s.K]))
			if !same(out, cut(c.s, whole[:2])) {
				t.Errorf("P10: %+v without 0 and 1 = %x, want %x", c.s, out, whole[:2])
			}
		}
	}
}

func TestP2Run(t *testing.T) {
	// The first two that come out are copies of one given register, the third of the second.
	copies := "XP\x02\x03\x01\x04\x00\x01\x02\x00\x01\x03\x00\x01\x04\x03\x00\x05\x00"
	for _, text := range []string{example11, copies} {
		for _, size := range []int{0, 1, 7, 48} {
			in := registers(2, size)
			freshly(t, api.Spec{}, in, ran(text, in), func(in [][]byte) [][]byte { return run(t, text, in) })
			for _, l := range [][][]byte{in, in[:1], append(in, in[0])} {
				w := watch(l)
				shards.Run(text, w.list)
				w.check(t, api.Spec{})
			}
			// One and the same bytes may stand in several registers.
			twice := [][]byte{in[0], in[0]}
			if out := run(t, text, twice); !same(out, ran(text, twice)) || !same(in, registers(2, size)) {
				t.Errorf("P2: Run(%q, %x) = %x", text, twice, out)
			}
		}
	}
}

func TestP2Count(t *testing.T) {
	a, b := count(t, example11), count(t, example11)
	for i := range a[:cap(a)] {
		a[:cap(a)][i] = -1
	}
	if c := count(t, example11); !slices.Equal(b, []int{2, 2, 1, 2}) || !slices.Equal(c, b) {
		t.Errorf("P2: two answers of Count share room: %v, %v", b, c)
	}
}

func TestP1AnyText(t *testing.T) {
	r := rand.New(rand.NewSource(13))
	for range 100000 {
		text := make([]byte, r.Intn(20))
		for i := range text {
			text[i] = byte(r.Intn(4))
		}
		judge(t, string(text), 1)
		judge(t, "XP"+string(text), 1)
		if len(text) >= 5 {
			text[3], text[4] = byte((len(text)-5)/3), 0
			judge(t, "XP"+string(text), 1)
		}
	}
}
