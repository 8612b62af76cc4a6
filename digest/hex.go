package digest

import (
	"strings"

	"stolon/api"
)

// hexDigits are the digits that Hex writes and ParseHex accepts.
const hexDigits = "0123456789abcdef"

// Hex returns a digest as hexadecimal digits.
func Hex(d api.Digest) string {
	text := make([]byte, 0, 2*len(d))
	for _, b := range d {
		text = append(text, hexDigits[b>>4], hexDigits[b&15])
	}
	return string(text)
}

// ParseHex returns the digest with these hexadecimal digits.
func ParseHex(s string) (api.Digest, api.Errno) {
	var d api.Digest
	if len(s) < 2*len(d) {
		return api.Digest{}, api.ErrShort
	}
	if len(s) > 2*len(d) {
		return api.Digest{}, api.ErrLong
	}
	for i := range len(s) {
		v := strings.IndexByte(hexDigits, s[i])
		if v < 0 {
			return api.Digest{}, api.ErrForm
		}
		d[i/2] = d[i/2]<<4 | byte(v)
	}
	return d, api.OK
}
