package tests

import (
	"bytes"
	"encoding/binary"
	"math"
	"reflect"
	"slices"
	"strings"
	"testing"
	"unsafe"

	"loop.example/g00316/impl"
)

// frameField is one number of a frame: how to reach it and its greatest.
type frameField struct {
	name string
	of   func(f *impl.Frame) *int64
	most int64
}

func frameFields() []frameField {
	return []frameField{
		{"To", func(f *impl.Frame) *int64 { return &f.To }, 65535},
		{"From", func(f *impl.Frame) *int64 { return &f.From }, 65535},
		{"first Tag", func(f *impl.Frame) *int64 { return &f.Tags[0] }, 4095},
		{"second Tag", func(f *impl.Frame) *int64 { return &f.Tags[1] }, 4095},
		{"Src", func(f *impl.Frame) *int64 { return &f.Src }, 4294967295},
		{"Dst", func(f *impl.Frame) *int64 { return &f.Dst }, 4294967295},
		{"Proto", func(f *impl.Frame) *int64 { return &f.Proto }, 255},
		{"SPort", func(f *impl.Frame) *int64 { return &f.SPort }, 65535},
		{"DPort", func(f *impl.Frame) *int64 { return &f.DPort }, 65535},
		{"Mark", func(f *impl.Frame) *int64 { return &f.Mark }, 3},
		{"Sum", func(f *impl.Frame) *int64 { return &f.Sum }, 65535},
	}
}

// someFrame has another number in each field and in each byte of them, so
// that no two can change places unseen.
func someFrame(tags int, body string) impl.Frame {
	return impl.Frame{
		To: 0x1112, From: 0x2122, Tags: []int64{0x0132, 0x0f42}[:tags:tags],
		Src: 0x51525354, Dst: 0xe1e2e3e4, Proto: 0x71, SPort: 0x8182, DPort: 0x9192,
		Mark: 2, Sum: 0xa1a2, Body: body,
	}
}

// rightFrames are ordinary ones and such as stand at an edge.
func rightFrames() []impl.Frame {
	long := strings.Repeat("\x00\xff\x01\x02ab", 250)
	list := []impl.Frame{{}, {Tags: []int64{}}, {Tags: []int64{0}}, {Tags: []int64{0, 0}}, {Body: "\x00"}}
	for tags := 0; tags <= 2; tags++ {
		for _, size := range []int{0, 1, 2, 3, 255, 256, 257, impl.MaxBody - 1, impl.MaxBody} {
			list = append(list, someFrame(tags, long[:size]))
		}
	}
	for _, field := range frameFields() {
		for _, n := range []int64{0, 1, field.most / 2, field.most - 1, field.most} {
			f := someFrame(2, "body")
			*field.of(&f) = n
			list = append(list, f)
		}
	}
	greatest := someFrame(2, long)
	for _, field := range frameFields() {
		*field.of(&greatest) = field.most
	}
	return append(list, greatest)
}

// wrongFrames are each wrong in one thing, and one in all.
func wrongFrames() []impl.Frame {
	var list []impl.Frame
	all := someFrame(2, strings.Repeat("a", impl.MaxBody+1))
	for _, field := range frameFields() {
		for _, n := range []int64{-1, -2, field.most + 1, field.most + 2, 2*field.most + 2, -field.most - 1, 1 << 32, 1 << 40, 1<<40 + 1, -1 << 32, math.MinInt64, math.MinInt64 + 1, math.MaxInt64} {
			f := someFrame(2, "body")
			*field.of(&f) = n
			list = append(list, f)
		}
		*field.of(&all) = math.MinInt64
	}
	for _, tags := range [][]int64{{4096}, {-1}, {0, 4096}, {1, 2, 3}, {0, 0, 0}, {1, 2, 4096}, make([]int64, 1000)} {
		f := someFrame(0, "body")
		f.Tags = tags
		list = append(list, f)
	}
	for _, size := range []int{impl.MaxBody + 1, impl.MaxBody + 2, 65535, 65536, 65537, 1 << 20} {
		list = append(list, someFrame(1, strings.Repeat("a", size)))
	}
	return append(list, all)
}

func sameFrame(a, b impl.Frame) bool {
	tags := slices.Equal(a.Tags, b.Tags)
	a.Tags, b.Tags = nil, nil
	return tags && reflect.DeepEqual(a, b)
}

// What ends a frame's head, in two pieces: between them Mark is looked at.
type headUpToMark struct {
	Src, Dst     uint32
	Proto        uint8
	SPort, DPort uint16
	Mark         uint8
}

// showByBinary is of right frames only.
func showByBinary(f impl.Frame) string {
	var out bytes.Buffer
	put := func(part any) {
		if err := binary.Write(&out, binary.BigEndian, part); err != nil {
			panic(err)
		}
	}
	put([]uint16{uint16(f.To), uint16(f.From)})
	for _, tag := range f.Tags {
		put(struct {
			Kind uint8
			Tag  uint16
		}{1, uint16(tag)})
	}
	put(uint8(2))
	put(headUpToMark{uint32(f.Src), uint32(f.Dst), uint8(f.Proto), uint16(f.SPort), uint16(f.DPort), uint8(f.Mark)})
	put([]uint16{uint16(f.Sum), uint16(len(f.Body))})
	return out.String() + f.Body
}

// readByBinary says of any text what the chapter says of it.
func readByBinary(s string) (impl.Frame, int64) {
	in := bytes.NewReader([]byte(s))
	whole := func(part any) bool { return binary.Read(in, binary.BigEndian, part) == nil }
	var f impl.Frame
	var pair [2]uint16
	if !whole(&pair) {
		return impl.Frame{}, impl.ErShort
	}
	f.To, f.From = int64(pair[0]), int64(pair[1])
	for {
		var kind uint8
		var tag uint16
		if !whole(&kind) {
			return impl.Frame{}, impl.ErShort
		}
		if kind == 2 {
			break
		}
		if kind != 1 {
			return impl.Frame{}, impl.ErKind
		}
		if len(f.Tags) == 2 {
			return impl.Frame{}, impl.ErTag
		}
		if !whole(&tag) {
			return impl.Frame{}, impl.ErShort
		}
		if tag > 4095 {
			return impl.Frame{}, impl.ErTag
		}
		f.Tags = append(f.Tags, int64(tag))
	}
	var head headUpToMark
	if in.Len() < binary.Size(head) || !whole(&head) {
		return impl.Frame{}, impl.ErShort
	}
	if head.Mark > 3 {
		return impl.Frame{}, impl.ErMark
	}
	f.Src, f.Dst, f.Proto = int64(head.Src), int64(head.Dst), int64(head.Proto)
	f.SPort, f.DPort, f.Mark = int64(head.SPort), int64(head.DPort), int64(head.Mark)
	if !whole(&pair) {
		return impl.Frame{}, impl.ErShort
	}
	f.Sum = int64(pair[0])
	body := s[len(s)-in.Len():]
	switch size := int(pair[1]); {
	case size > impl.MaxBody:
		return impl.Frame{}, impl.ErSize
	case len(body) < size:
		return impl.Frame{}, impl.ErShort
	case len(body) > size:
		return impl.Frame{}, impl.ErMore
	}
	f.Body = body
	return f, impl.ErNone
}

// heldAgainstBinary also asks that a text that is read is shown as itself.
func heldAgainstBinary(t *testing.T, s string) {
	t.Helper()
	f, code := impl.ReadFrame(s)
	want, wantCode := readByBinary(s)
	if code != wantCode || !sameFrame(f, want) {
		t.Fatalf("ReadFrame(%q) = %v, %d, not %v, %d", s, f, code, want, wantCode)
	}
	if code == impl.ErNone && (!impl.FrameOk(f) || impl.ShowFrame(f) != s) {
		t.Fatalf("%q is read as %v and shown as %q", s, f, impl.ShowFrame(f))
	}
}

func TestFrameConstants(t *testing.T) {
	codes := []int64{impl.ErNone, impl.ErShort, impl.ErTag, impl.ErKind, impl.ErMark, impl.ErSize, impl.ErMore}
	for want, code := range codes {
		if code != int64(want) {
			t.Errorf("code %d is %d", want, code)
		}
	}
	if impl.MaxBody != 1500 {
		t.Error("MaxBody is", impl.MaxBody)
	}
}

func TestShowFrameByteByByte(t *testing.T) {
	head := "\x51\x52\x53\x54\xe1\xe2\xe3\xe4\x71\x81\x82\x91\x92\x02\xa1\xa2"
	for _, c := range []struct {
		f    impl.Frame
		want string
		size int64
	}{
		{impl.Frame{}, "\x00\x00\x00\x00\x02" + strings.Repeat("\x00", 18), 23},
		{someFrame(0, ""), "\x11\x12\x21\x22\x02" + head + "\x00\x00", 23},
		{someFrame(1, ""), "\x11\x12\x21\x22\x01\x01\x32\x02" + head + "\x00\x00", 26},
		{someFrame(2, ""), "\x11\x12\x21\x22\x01\x01\x32\x01\x0f\x42\x02" + head + "\x00\x00", 29},
		{someFrame(0, "xyz"), "\x11\x12\x21\x22\x02" + head + "\x00\x03xyz", 23},
		{someFrame(2, "\x02\x01"), "\x11\x12\x21\x22\x01\x01\x32\x01\x0f\x42\x02" + head + "\x00\x02\x02\x01", 29},
		{someFrame(1, strings.Repeat("b", 1500)), "\x11\x12\x21\x22\x01\x01\x32\x02" + head + "\x05\xdc" + strings.Repeat("b", 1500), 26},
	} {
		if got := impl.ShowFrame(c.f); got != c.want {
			t.Errorf("%v is shown as %q, not %q", c.f, got, c.want)
		}
		if got := impl.HeadSize(c.f); got != c.size {
			t.Errorf("HeadSize of %v is %d, not %d", c.f, got, c.size)
		}
		if got, code := impl.ReadFrame(c.want); code != impl.ErNone || !sameFrame(got, c.f) {
			t.Errorf("%q is read as %v, %d", c.want, got, code)
		}
	}
}

func TestRightFrames(t *testing.T) {
	for _, f := range rightFrames() {
		if !impl.FrameOk(f) {
			t.Errorf("FrameOk of %v is false", f)
		}
		s := impl.ShowFrame(f)
		if want := showByBinary(f); s != want {
			t.Errorf("%v is shown as %q, not %q", f, s, want)
		}
		if got := impl.HeadSize(f); got != int64(len(s)-len(f.Body)) || got != int64(23+3*len(f.Tags)) {
			t.Errorf("HeadSize of %v is %d", f, got)
		}
		if got, code := impl.ReadFrame(s); code != impl.ErNone || !sameFrame(got, f) {
			t.Errorf("%v is read again as %v, %d", f, got, code)
		}
	}
}

func TestWrongFrames(t *testing.T) {
	for _, f := range wrongFrames() {
		if impl.FrameOk(f) {
			t.Errorf("FrameOk of %v is true", f)
		}
		if got := impl.ShowFrame(f); got != "" {
			t.Errorf("%v is shown as %q", f, got)
		}
		if got := impl.HeadSize(f); got != 0 {
			t.Errorf("HeadSize of %v is %d", f, got)
		}
	}
}

// From the first byte of the text on, the whole of it, and nothing behind.
func TestTextsCutShort(t *testing.T) {
	for _, f := range rightFrames() {
		s := impl.ShowFrame(f)
		for n := range len(s) {
			if got, code := impl.ReadFrame(s[:n]); code != impl.ErShort || !sameFrame(got, impl.Frame{}) {
				t.Fatalf("%d bytes of %q are read as %v, %d", n, s, got, code)
			}
		}
		for _, more := range []string{"\x00", "z", "\x01\x02", s} {
			if got, code := impl.ReadFrame(s + more); code != impl.ErMore || !sameFrame(got, impl.Frame{}) {
				t.Fatalf("%q is read as %v, %d", s+more, got, code)
			}
		}
	}
	if got, code := impl.ReadFrame(""); code != impl.ErShort || !sameFrame(got, impl.Frame{}) {
		t.Fatalf("the empty text is read as %v, %d", got, code)
	}
}

// Of the tests below: what stands ahead of the first byte that tells what
// follows, a right Tag, and what follows a byte 2 up to Mark.
const (
	ends   = "\x11\x12\x21\x22"
	oneTag = "\x01\x0f\xff"
	toMark = "\x02\x51\x52\x53\x54\xe1\xe2\xe3\xe4\x71\x81\x82\x91\x92"
)

type readCase struct {
	name, text string
	code       int64
}

func told(t *testing.T, list []readCase) {
	t.Helper()
	for _, c := range list {
		got, code := impl.ReadFrame(c.text)
		if code != c.code {
			t.Errorf("%s: %q has code %d, not %d", c.name, c.text, code, c.code)
		}
		if c.code != impl.ErNone && !sameFrame(got, impl.Frame{}) {
			t.Errorf("%s: %q is read as %v", c.name, c.text, got)
		}
	}
}

func TestEachCode(t *testing.T) {
	rest := "\x03\xa1\xa2\x00\x02hi"
	told(t, []readCase{
		{"right", ends + toMark + rest, impl.ErNone},
		{"right, two Tags of 4095", ends + oneTag + oneTag + toMark + rest, impl.ErNone},
		{"first Tag 4096", ends + "\x01\x10\x00" + toMark + rest, impl.ErTag},
		{"second Tag 4096", ends + oneTag + "\x01\x10\x00" + toMark + rest, impl.ErTag},
		{"Tag 65535", ends + "\x01\xff\xff" + toMark + rest, impl.ErTag},
		{"third Tag", ends + oneTag + oneTag + oneTag + toMark + rest, impl.ErTag},
		{"kind 0", ends + "\x00" + toMark[1:] + rest, impl.ErKind},
		{"kind 3", ends + "\x03" + toMark[1:] + rest, impl.ErKind},
		{"kind 255", ends + "\xff" + toMark[1:] + rest, impl.ErKind},
		{"kind 3 behind a Tag", ends + oneTag + "\x03" + toMark[1:] + rest, impl.ErKind},
		{"kind 0 behind two Tags", ends + oneTag + oneTag + "\x00" + toMark[1:] + rest, impl.ErKind},
		{"Mark 4", ends + toMark + "\x04" + rest[1:], impl.ErMark},
		{"Mark 255", ends + toMark + "\xff" + rest[1:], impl.ErMark},
		{"Body of one more than MaxBody", ends + toMark + "\x03\xa1\xa2\x05\xdd" + strings.Repeat("a", 1501), impl.ErSize},
		{"Body of 65535", ends + toMark + "\x03\xa1\xa2\xff\xff" + strings.Repeat("a", 65535), impl.ErSize},
		{"Body of MaxBody", ends + toMark + "\x03\xa1\xa2\x05\xdc" + strings.Repeat("a", 1500), impl.ErNone},
		{"Body of MaxBody, one byte behind", ends + toMark + "\x03\xa1\xa2\x05\xdc" + strings.Repeat("a", 1501), impl.ErMore},
		{"Body of MaxBody, one byte missing", ends + toMark + "\x03\xa1\xa2\x05\xdc" + strings.Repeat("a", 1499), impl.ErShort},
		{"no Body, one byte behind", ends + toMark + "\x03\xa1\xa2\x00\x00a", impl.ErMore},
	})
}

// Two things are wrong: the one that stands ahead is told.
func TestFirstCodeIsTold(t *testing.T) {
	rest := "\x03\xa1\xa2\x00\x02hi"
	told(t, []readCase{
		{"Tag 4096 at the end", ends + "\x01\x10\x00", impl.ErTag},
		{"half of Tag 4096", ends + "\x01\x10", impl.ErShort},
		{"half of Tag 65535", ends + "\x01\xff", impl.ErShort},
		{"third Tag's first byte at the end", ends + oneTag + oneTag + "\x01", impl.ErTag},
		{"half of a third Tag", ends + oneTag + oneTag + "\x01\x00", impl.ErTag},
		{"third Tag at the end", ends + oneTag + oneTag + oneTag, impl.ErTag},
		{"second Tag 4096, then a third", ends + oneTag + "\x01\x10\x00" + oneTag + toMark + rest, impl.ErTag},
		{"kind at the end", ends + "\x03", impl.ErKind},
		{"kind, then Tag 4096", ends + "\x00\x01\x10\x00", impl.ErKind},
		{"Tag 4096, then kind", ends + "\x01\x10\x00\x03" + toMark[1:] + rest, impl.ErTag},
		{"two Tags, then kind at the end", ends + oneTag + oneTag + "\x07", impl.ErKind},
		{"kind, then Mark", ends + "\x04" + toMark[1:] + "\x04\xa1\xa2\x00\x00", impl.ErKind},
		{"Tag 4096, then Mark", ends + "\x01\x10\x00" + toMark + "\x04\xa1\xa2\x00\x00", impl.ErTag},
		{"Mark at the end", ends + toMark + "\x04", impl.ErMark},
		{"Mark, half of Sum", ends + toMark + "\x04\xa1", impl.ErMark},
		{"Mark, then Size", ends + toMark + "\x04\xa1\xa2\x05\xdd", impl.ErMark},
		{"Mark, then bytes behind", ends + toMark + "\x04\xa1\xa2\x00\x00z", impl.ErMark},
		{"Mark, then a short Body", ends + toMark + "\x04\xa1\xa2\x00\x02h", impl.ErMark},
		{"Size without any Body", ends + toMark + "\x03\xa1\xa2\x05\xdd", impl.ErSize},
		{"Size with a short Body", ends + toMark + "\x03\xa1\xa2\x05\xdd" + strings.Repeat("a", 1500), impl.ErSize},
		{"Size with bytes behind", ends + toMark + "\x03\xa1\xa2\x05\xdd" + strings.Repeat("a", 1502), impl.ErSize},
		{"half of Size", ends + toMark + "\x03\xa1\xa2\xff", impl.ErShort},
		{"kind, then bytes behind", ends + "\x09" + toMark[1:] + rest + "z", impl.ErKind},
		{"Tag 4096, then bytes behind", ends + "\x01\x10\x00" + toMark + rest + "z", impl.ErTag},
		{"short ahead of all else", "\x01\xff\xff", impl.ErShort},
	})
}

// Each byte of some texts as every byte there is, and left out, and doubled.
func TestChangedTexts(t *testing.T) {
	for tags := 0; tags <= 2; tags++ {
		for _, body := range []string{"", "hi", strings.Repeat("\x01", 300)} {
			s := showByBinary(someFrame(tags, body))
			for at := range min(len(s), 40) {
				for b := range 256 {
					heldAgainstBinary(t, s[:at]+string([]byte{byte(b)})+s[at+1:])
				}
				heldAgainstBinary(t, s[:at]+s[at+1:])
				heldAgainstBinary(t, s[:at+1]+s[at:])
			}
		}
	}
}

// Texts of bytes that mean something, with a right beginning and a right end.
func TestTextsOfFewBytes(t *testing.T) {
	few := "\x01\x02\x00\x0f\x10\x03"
	tail := strings.Repeat("\x00", 18)
	for n, x := range spread(20000) {
		var middle []byte
		for range n % 12 {
			middle = append(middle, few[x%6])
			x /= 6
		}
		heldAgainstBinary(t, string(middle))
		heldAgainstBinary(t, ends+string(middle))
		heldAgainstBinary(t, ends+string(middle)+"\x02"+tail)
	}
}

// Neither the Tags nor what lies behind them in their memory is written.
func TestFrameArgumentsStay(t *testing.T) {
	for tags := 0; tags <= 3; tags++ {
		room := []int64{258, 4095, 7, 8, 9}
		f := someFrame(0, "body")
		f.Tags = room[:tags]
		ahead := f
		impl.FrameOk(f)
		impl.ShowFrame(f)
		impl.HeadSize(f)
		if !slices.Equal(room, []int64{258, 4095, 7, 8, 9}) || !reflect.DeepEqual(f, ahead) {
			t.Errorf("%d Tags: %v, %v", tags, room, f)
		}
	}
}

// What one answer's Tags are made into is seen in no other answer, nor in the
// frame that was shown.
func TestFrameAnswersAreNewMemory(t *testing.T) {
	f := someFrame(2, "body")
	s := impl.ShowFrame(f)
	first, _ := impl.ReadFrame(s)
	second, _ := impl.ReadFrame(s)
	whole := first.Tags[:cap(first.Tags)]
	for i := range whole {
		whole[i] = -1
	}
	if !sameFrame(second, f) || !sameFrame(f, someFrame(2, "body")) || impl.ShowFrame(f) != s {
		t.Error(second, f)
	}
	third, _ := impl.ReadFrame(s)
	if !sameFrame(third, f) {
		t.Error(third)
	}
	if inside(second.Body, s) || inside(impl.ShowFrame(f), f.Body) {
		t.Error("a text is a piece of the argument's")
	}
}

// inside asks whether the memory of piece begins in that of whole.
func inside(piece, whole string) bool {
	from := uintptr(unsafe.Pointer(unsafe.StringData(whole)))
	at := uintptr(unsafe.Pointer(unsafe.StringData(piece)))
	return at >= from && at < from+uintptr(len(whole))
}
