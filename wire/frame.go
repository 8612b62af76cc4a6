package wire

import (
	"stolon/api"
	"stolon/digest"
)

// The form of a frame.
const (
	frameMark    = 0x5357
	frameVersion = 1
	headSize     = 10 // bytes before the body
	sumSize      = 4  // bytes of the checksum after it
)

// Encode returns the frame of a message.
func Encode(m api.Message) ([]byte, api.Errno) {
	if e := Check(m); e != api.OK {
		return nil, e
	}
	content := body(m)
	w := digest.NewWriter(headSize + len(content) + sumSize)
	w.U16(frameMark)
	w.U8(frameVersion)
	w.U8(uint8(m.Kind))
	w.U8(uint8(m.From))
	w.U8(uint8(m.To))
	w.U32(uint32(len(content)))
	w.Raw(content)
	before, _ := w.Bytes() // it has room for all of the frame
	w.U32(digest.CRC32C(before))
	return w.Bytes()
}

// Size returns the number of bytes of a message's frame.
func Size(m api.Message) (int, api.Errno) {
	if e := Check(m); e != api.OK {
		return 0, e
	}
	return headSize + len(body(m)) + sumSize, api.OK
}

// body returns the body of a valid message.
func body(m api.Message) []byte {
	l, _ := layoutOf(m.Kind)
	w := digest.NewWriter(api.MaxBody)
	l.write(w, m)
	b, _ := w.Bytes() // no valid message comes near the limit
	return b
}

// Decode returns the message of a frame.
func Decode(b []byte) (api.Message, api.Errno) {
	size, e := frameSize(b)
	if e != api.OK {
		return api.Message{}, e
	}
	if len(b) < size {
		return api.Message{}, api.ErrShort
	}
	if len(b) > size {
		return api.Message{}, api.ErrLong
	}
	return open(b)
}

// Scan decodes frames that follow one another.
func Scan(b []byte) ([]api.Message, int, api.Errno) {
	var messages []api.Message
	done := 0
	for len(b)-done >= headSize {
		rest := b[done:]
		size, e := frameSize(rest)
		if e != api.OK {
			return messages, done, e
		}
		if len(rest) < size {
			break
		}
		m, e := open(rest[:size])
		if e != api.OK {
			return messages, done, e
		}
		messages = append(messages, m)
		done += size
	}
	return messages, done, api.OK
}

// frameSize returns the number of bytes of the frame that begins with b. It examines only what tells where the frame ends.
func frameSize(b []byte) (int, api.Errno) {
	if len(b) < headSize {
		return 0, api.ErrShort
	}
	r := digest.NewReader(b[:headSize])
	if r.U16() != frameMark {
		return 0, api.ErrForm
	}
	if r.U8() != frameVersion {
		return 0, api.ErrVersion
	}
	r.Raw(3) // Kind, From and To
	length := r.U32()
	if length > api.MaxBody {
		return 0, api.ErrLong
	}
	return headSize + int(length) + sumSize, api.OK
}

// open returns the message of a frame whose beginning and length are right.
func open(frame []byte) (api.Message, api.Errno) {
	end := len(frame) - sumSize
	if digest.NewReader(frame[end:]).U32() != digest.CRC32C(frame[:end]) {
		return api.Message{}, api.ErrSum
	}
	kind, from, to := api.Kind(frame[3]), int(frame[4]), int(frame[5])
	l, found := layoutOf(kind)
	if !found {
		return api.Message{}, api.ErrArg
	}
	r := digest.NewReader(frame[headSize:end])
	content, ok := l.read(r)
	if !ok || r.End() != api.OK {
		return api.Message{}, api.ErrForm
	}
	m := addressed(content, kind, from, to)
	if e := Check(m); e != api.OK {
		return api.Message{}, e
	}
	return m, api.OK
}
