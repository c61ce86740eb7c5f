package frame

import "gong/api"

// What a framer waits for.
const (
	firstDigit = iota
	moreDigits // or the blank
	theBytes
)

// begun is what has come of a frame that is not whole yet: at the beginning, nothing.
type begun struct {
	waits int
	long  int    // how many bytes the message has, by the digits that have come
	ahead int    // how many bytes stand ahead of the message: digits, and the blank
	bytes []byte // of the message
}

// Feed lays chunk behind the stream. The messages are those whose frames are whole
// by it, also beside an error: they came ahead of what is bad.
func (f *Framer) Feed(chunk string) (messages []string, e api.Code) {
	if f.dead {
		f.dropped++
		return nil, api.ErrFrame
	}
stream:
	for chunk != "" {
		switch f.waits {
		case firstDigit:
			if !isDigit(chunk[0]) || chunk[0] == '0' {
				f.die()
				break stream
			}
			f.waits = moreDigits
			fallthrough
		case moreDigits:
			chunk = f.length(chunk)
			if f.waits != theBytes { // the chunk has ended, or the stream is bad
				break stream
			}
			fallthrough
		case theBytes:
			chunk = f.take(chunk)
			if len(f.bytes) == f.long {
				messages = append(messages, string(f.bytes))
				f.begun = begun{}
			}
		}
	}
	if f.dead {
		return messages, api.ErrFrame
	}
	return messages, api.OK
}

// length reads on in a message's length, up to the blank behind it, and answers
// what the chunk has behind that.
func (f *Framer) length(chunk string) string {
	for i := range len(chunk) {
		f.ahead++
		if chunk[i] == blank {
			f.waits = theBytes
			return chunk[i+1:]
		}
		if !isDigit(chunk[i]) {
			f.die()
			break
		}
		f.long = 10*f.long + int(chunk[i]-'0')
		if f.long > f.most {
			f.die()
			break
		}
	}
	return ""
}

func isDigit(c byte) bool {
	return c >= '0' && c <= '9'
}

// take reads on in a message's bytes, and answers what the chunk has behind them.
func (f *Framer) take(chunk string) string {
	n := min(f.long-len(f.bytes), len(chunk))
	f.bytes = append(f.bytes, chunk[:n]...)
	return chunk[n:]
}

// die lets go of what was begun: it will never be whole.
func (f *Framer) die() {
	f.dead = true
	f.begun = begun{}
}
