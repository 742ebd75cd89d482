package tests

// nearTexts hands on all texts that are one byte off: one changed, one put in, one left out, two next to each other swapped.
func nearTexts(text string, hold func(near string)) {
	for i := 0; i <= len(text); i++ {
		for b := range 256 {
			put := string([]byte{byte(b)})
			hold(text[:i] + put + text[i:])
			if i < len(text) {
				hold(text[:i] + put + text[i+1:])
			}
		}
		if i < len(text) {
			hold(text[:i] + text[i+1:])
		}
		if i+1 < len(text) {
			hold(text[:i] + text[i+1:i+2] + text[i:i+1] + text[i+2:])
		}
	}
}
