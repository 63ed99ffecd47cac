package frame

import "fingerpost/api"

// Sizes, and the place of the one byte that all others are counted by.
const (
	numberSize = 4
	countAt    = 7
	leastSize  = countAt + 1 + numberSize // no Nums, and the sum
)

// Encode a frame.
func Encode(f Frame) (string, error) {
	if err := Check(f); err != nil {
		return "", err
	}
	put, written := writer()
	put(1, int(f.Kind))
	put(1, f.From)
	put(1, f.To)
	put(numberSize, f.Seq)
	put(1, len(f.Nums))
	for _, n := range f.Nums {
		put(numberSize, n)
	}
	body := written()
	return body + sumText(body), nil
}

// Decode a frame.
func Decode(s string) (Frame, error) {
	if len(s) < leastSize || len(s) != leastSize+numberSize*int(s[countAt]) {
		return Frame{}, api.ErrText
	}
	end := len(s) - numberSize
	if s[end:] != sumText(s[:end]) {
		return Frame{}, api.ErrSum
	}
	f := fields(reader(s))
	if err := Check(f); err != nil {
		return Frame{}, err
	}
	return f, nil
}

// fields of a frame, in the order in which they stand there.
func fields(take func(size int) int) Frame {
	var f Frame
	f.Kind = byte(take(1))
	f.From = take(1)
	f.To = take(1)
	f.Seq = take(numberSize)
	for range take(1) {
		f.Nums = append(f.Nums, take(numberSize))
	}
	return f
}

// writer puts numbers one behind the other, the highest byte first, and tells the text that they make.
func writer() (put func(size, n int), written func() string) {
	var text []byte
	put = func(size, n int) {
		for i := size - 1; i >= 0; i-- {
			text = append(text, byte(n>>(8*i)))
		}
	}
	return put, func() string { return string(text) }
}

// reader takes numbers of a text as a writer put them, each from where the last one ended.
func reader(s string) (take func(size int) int) {
	at := 0
	return func(size int) int {
		n := 0
		for range size {
			n = n<<8 | int(s[at])
			at++
		}
		return n
	}
}
