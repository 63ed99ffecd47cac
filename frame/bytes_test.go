package frame

import (
	"encoding/binary"
	"hash/crc32"
	"reflect"
	"slices"
	"strings"
	"testing"

	"fingerpost/api"
)

// dice are numbers that look thrown, and are the same ones each time.
type dice uint64

func (d *dice) below(n int) int {
	*d ^= *d << 13
	*d ^= *d >> 7
	*d ^= *d << 17
	return int(uint64(*d) >> 11 % uint64(n))
}

// number of a frame: often small, sometimes at an end.
func (d *dice) number() int {
	switch d.below(4) {
	case 0:
		return d.below(4)
	case 1:
		return api.MaxSeq - d.below(2)
	}
	return d.below(api.MaxSeq + 1)
}

// thrown frame that is well.
func (d *dice) thrown(maxNums int) Frame {
	from := d.below(api.MaxPeers)
	f := Frame{
		Kind: "deta"[d.below(4)],
		From: from,
		To:   (from + 1 + d.below(api.MaxPeers-1)) % api.MaxPeers,
		Seq:  d.number(),
	}
	for range d.below(maxNums + 1) {
		f.Nums = append(f.Nums, d.number())
	}
	return f
}

// same frames: a nil list and an empty one are one thing.
func same(f, g Frame) bool {
	return f.Kind == g.Kind && f.From == g.From && f.To == g.To && f.Seq == g.Seq && slices.Equal(f.Nums, g.Nums)
}

// summed is a text with the sum that it asks for, worked out by the library.
func summed(s string) string {
	return string(binary.LittleEndian.AppendUint32([]byte(s), crc32.ChecksumIEEE([]byte(s))))
}

// turned is a text of which one bit is.
func turned(s string, bit int) string {
	b := []byte(s)
	b[bit/8] ^= 1 << (bit % 8)
	return string(b)
}

// P101: which byte stands where, written out.
func TestBytes(t *testing.T) {
	for _, x := range []struct {
		f    Frame
		want string
	}{
		{least(), "d\x00\x01\x00\x00\x00\x00\x00"},
		{Frame{Kind: 'a', From: 5, To: 2, Seq: 1}, "a\x05\x02\x00\x00\x00\x01\x00"},
		{Frame{Kind: 't', From: 1, To: 0, Seq: 0x01020304, Nums: []int{0x7f6e5d4c}}, "t\x01\x00\x01\x02\x03\x04\x01\x7f\x6e\x5d\x4c"},
		{Frame{Kind: 'e', From: 3, To: 4, Seq: api.MaxSeq, Nums: []int{258, 0, api.MaxSeq}}, "e\x03\x04\x80\x00\x00\x00\x03\x00\x00\x01\x02\x00\x00\x00\x00\x80\x00\x00\x00"},
		{Frame{Kind: 'd', To: 1, Nums: numbers(200, 255)}, "d\x00\x01\x00\x00\x00\x00\xc8" + strings.Repeat("\x00\x00\x00\xff", 200)},
	} {
		if s, err := Encode(x.f); s != summed(x.want) || err != nil {
			t.Errorf("Encode(%v) = %q, %v, want %q", x.f, s, err, summed(x.want))
		}
		if f, err := Decode(summed(x.want)); !same(f, x.f) || err != nil {
			t.Errorf("Decode(%q) = %v, %v", x.want, f, err)
		}
	}
}

// P101: the sum's own bytes, written out too.
func TestSumBytes(t *testing.T) {
	s, err := Encode(Frame{Kind: 'd', From: 1, To: 2, Seq: 3, Nums: []int{4}})
	if want := "d\x01\x02\x00\x00\x00\x03\x01\x00\x00\x00\x04\xe2\x01\x63\x29"; s != want || err != nil {
		t.Errorf("%q, %v, want %q", s, err, want)
	}
}

// P101: with Check's errors, in its order, there is no text.
func TestEncodeWrong(t *testing.T) {
	for _, x := range wrong() {
		if s, err := Encode(x.f); s != "" || err != x.want {
			t.Errorf("Encode(%c %d %d %d, %d Nums) = %q, %v, want %v", x.f.Kind, x.f.From, x.f.To, x.f.Seq, len(x.f.Nums), s, err, x.want)
		}
	}
}

// P101: what is wrong with a text's length is told ahead of its sum, and that ahead of what is wrong with the frame.
func TestDecodeWrong(t *testing.T) {
	over := strings.Repeat("\x80\x00\x00\x01", 201)
	for s, want := range map[string]error{
		"":                                      api.ErrText,
		"d":                                     api.ErrText,
		"d\x00\x01\x00\x00\x00\x00":             api.ErrText,
		"d\x00\x01\x00\x00\x00\x00\x00":         api.ErrText,
		summed("d\x00\x01\x00\x00\x00\x00"):     api.ErrText,
		summed("d\x00\x01\x00\x00\x00\x00\x01"): api.ErrText,
		summed("d\x00\x01\x00\x00\x00\x00\x01\x00\x00\x00"):                         api.ErrText,
		summed("d\x00\x01\x00\x00\x00\x00\x01\x00\x00\x00\x00\x00"):                 api.ErrText,
		summed("d\x00\x01\x00\x00\x00\x00\x00\x00\x00\x00\x00"):                     api.ErrText,
		summed("d\x00\x01\x00\x00\x00\x00\x00") + "\x00":                            api.ErrText,
		"\x00" + summed("d\x00\x01\x00\x00\x00\x00\x00"):                            api.ErrText,
		summed("x\x00\x01\x00\x00\x00\x00\x02\x00\x00\x00\x00"):                     api.ErrText,
		"d\x00\x01\x00\x00\x00\x00\x00\x00\x00\x00\x00":                             api.ErrSum,
		"x\x09\x09\xff\xff\xff\xff\x00\x00\x00\x00\x00":                             api.ErrSum,
		strings.Repeat("\x00", 12):                                                  api.ErrSum,
		strings.Repeat("\xff", 12+4*255):                                            api.ErrSum,
		summed("\x00\x00\x00\x00\x00\x00\x00\x00"):                                  api.ErrKind,
		summed("D\x00\x01\x00\x00\x00\x00\x00"):                                     api.ErrKind,
		summed("x\x06\x01\x00\x00\x00\x00\x00"):                                     api.ErrKind,
		summed("x\x00\x00\x00\x00\x00\x00\xc9" + over):                              api.ErrKind,
		summed(strings.Repeat("\xff", 8+4*255)):                                     api.ErrKind,
		summed("d\x06\x01\x00\x00\x00\x00\x00"):                                     api.ErrBound,
		summed("d\x00\x06\x00\x00\x00\x00\x00"):                                     api.ErrBound,
		summed("d\xff\x01\x00\x00\x00\x00\x00"):                                     api.ErrBound,
		summed("d\x07\x07\x00\x00\x00\x00\x00"):                                     api.ErrBound,
		summed("d\x00\x01\x80\x00\x00\x01\x00"):                                     api.ErrBound,
		summed("d\x00\x00\xff\xff\xff\xff\x00"):                                     api.ErrBound,
		summed("d\x00\x00\x00\x00\x00\x00\x01\x80\x00\x00\x01"):                     api.ErrBound,
		summed("d\x00\x01\x00\x00\x00\x00\x02\x00\x00\x00\x00\xff\xff\xff\xff"):     api.ErrBound,
		summed("d\x00\x01\x00\x00\x00\x00\xc9" + over):                              api.ErrBound,
		summed("d\x00\x00\x00\x00\x00\x00\x00"):                                     api.ErrShape,
		summed("a\x05\x05\x80\x00\x00\x00\x00"):                                     api.ErrShape,
		summed("d\x01\x01\x00\x00\x00\x00\xc9" + strings.Repeat("\x00", 4*201)):     api.ErrShape,
		summed("d\x00\x01\x00\x00\x00\x00\xc9" + strings.Repeat("\x00", 4*201)):     api.ErrFull,
		summed("t\x05\x01\x80\x00\x00\x00\xff" + strings.Repeat("\x00\x01", 2*255)): api.ErrFull,
		strings.Repeat("d\x00\x01\x00\x00\x00\x00\x00", 10000):                      api.ErrText,
	} {
		if f, err := Decode(s); !reflect.DeepEqual(f, Frame{}) || err != want {
			t.Errorf("Decode(%q) = %v, %v, want %v", s[:min(len(s), 24)], f, err, want)
		}
	}
}

// P101: of each number of Nums, texts of each length about the right one; the sum is right, so only the length is asked.
func TestDecodeLengths(t *testing.T) {
	for count := range 256 {
		for length := range 20 {
			askLength(t, count, length)
			askLength(t, count, 4*count-length)
			askLength(t, count, 4*count+length)
		}
	}
}

// askLength of a text whose number of Nums is told as count, and that has so many bytes for them.
func askLength(t *testing.T, count, length int) {
	t.Helper()
	if length < 0 {
		return
	}
	s := summed("d\x00\x01\x00\x00\x00\x07" + string([]byte{byte(count)}) + strings.Repeat("\x00", length))
	var want error = api.ErrText
	if length == 4*count {
		want = nil
		if count > api.MaxNums {
			want = api.ErrFull
		}
	}
	f, err := Decode(s)
	if err != want || err == nil && (f.Seq != 7 || len(f.Nums) != count) || err != nil && !reflect.DeepEqual(f, Frame{}) {
		t.Errorf("%d Nums in %d bytes: %v, %v, want %v", count, length, f, err, want)
	}
}

// P101: sums as the library works them out: of nothing, of each byte, of short and long texts.
func TestSum(t *testing.T) {
	if got := Sum("123456789"); got != 0xCBF43926 {
		t.Errorf("%#x", got)
	}
	if got := Sum(""); got != 0 {
		t.Errorf("of nothing: %#x", got)
	}
	texts := []string{"a", "\x00", strings.Repeat("\x00", 4), strings.Repeat("\xff", 4), "ä\u2192", strings.Repeat("\xff\x00\x81", 50000)}
	for b := range 256 {
		texts = append(texts, string([]byte{byte(b)}), "ab"+string([]byte{byte(b)})+"c")
	}
	d := dice(101)
	for range 2000 {
		b := make([]byte, d.below(60))
		for i := range b {
			b[i] = byte(d.below(256))
		}
		texts = append(texts, string(b))
	}
	for _, s := range texts {
		if got, want := Sum(s), crc32.ChecksumIEEE([]byte(s)); got != want {
			t.Errorf("Sum(%q) = %#x, want %#x", s[:min(len(s), 20)], got, want)
		}
	}
}

// P102: a frame is read as it was written; of the answer each list is new.
func TestReadAsWritten(t *testing.T) {
	d := dice(7)
	l := well()
	for range 3000 {
		l = append(l, d.thrown(10))
	}
	for range 300 {
		l = append(l, d.thrown(api.MaxNums))
	}
	for _, f := range l {
		s, err := Encode(f)
		if err != nil || len(s) != 12+4*len(f.Nums) {
			t.Fatalf("Encode(%v) = %q, %v", f, s, err)
		}
		g, err := Decode(s)
		if err != nil || !same(f, g) {
			t.Fatalf("written %v, read %v, %v", f, g, err)
		}
		for i := range g.Nums {
			g.Nums[i] = -9
		}
		if h, err := Decode(s); err != nil || !same(f, h) {
			t.Fatalf("written %v, read once more %v, %v", f, h, err)
		}
	}
}

// P102: a bit that is turned, whichever, makes it none: each bit of frames of each length.
func TestTurned(t *testing.T) {
	d := dice(102)
	l := well()
	for range 200 {
		l = append(l, d.thrown(10))
	}
	for range 3 {
		l = append(l, d.thrown(api.MaxNums))
	}
	for _, f := range l {
		s, err := Encode(f)
		if err != nil {
			t.Fatal(f, err)
		}
		for bit := range 8 * len(s) {
			want := api.ErrSum
			if bit/8 == 7 {
				want = api.ErrText
			}
			if g, err := Decode(turned(s, bit)); err != want || !reflect.DeepEqual(g, Frame{}) {
				t.Errorf("%v, bit %d turned: %v, %v, want %v", f, bit, g, err, want)
			}
		}
	}
}

// P101, P102: there is one text of a frame: one that is read is written as it was.
func TestWrittenAsRead(t *testing.T) {
	d := dice(9)
	read := 0
	for range 20000 {
		b := []byte{"detax"[d.below(5)], byte(d.below(7)), byte(d.below(7)), byte(d.below(140)), byte(d.below(256)), byte(d.below(256)), byte(d.below(256)), byte(d.below(4))}
		for range b[7] {
			b = append(b, byte(d.below(140)), byte(d.below(256)), byte(d.below(256)), byte(d.below(256)))
		}
		s := summed(string(b))
		f, err := Decode(s)
		if err != Check(f) && err == nil {
			t.Fatalf("%q is read as %v, which is none", s, f)
		}
		if err != nil {
			continue
		}
		read++
		if again, err := Encode(f); again != s || err != nil {
			t.Fatalf("read %q, written %q, %v", s, again, err)
		}
	}
	if read < 1000 {
		t.Error("few texts were read:", read)
	}
}
