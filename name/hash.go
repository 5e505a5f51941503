package name

// What bytes' numbers are made of (FNV-1a's).
const (
	begin = 0x811C9DC5
	times = 0x01000193
)

// Hash is a text's number.
func Hash(s string) uint32 {
	var x uint32 = begin
	for at := range len(s) {
		x = (x ^ uint32(s[at])) * times
	}
	return mixed(x)
}

// mixed lets each bit of a number hang on all of them: names that differ in
// their last byte alone have numbers close to each other till then.
func mixed(x uint32) uint32 {
	x = (x ^ x>>16) * 0x7FEB352D
	x = (x ^ x>>15) * 0x846CA68B
	return x ^ x>>16
}
