"""Promise 11: li_narrow."""

import unittest

from evenlight.light import li_narrow

MOST = 4294967295
RIMS = [0, 127, 128, 255, 256, 32767, 32768, 65407, 65408, 65535]


def narrow_by_words(mode, word):
    """One word, by its bits, straight from the document's words."""
    if mode == 0:
        return word & 255
    if mode == 1:
        return 255 if word > 255 else word
    number = word - 65536 if word & 32768 else word
    if number < -128:
        number = -128
    if number > 127:
        number = 127
    return number & 255


class ModeTest(unittest.TestCase):
    def test_lowest_eight_bits(self):
        self.assertEqual(li_narrow(0, RIMS), [0, 0, 127, 128, 255, 0, 255, 0, 127, 128, 255])
        self.assertEqual(li_narrow(0, [257, 511, 512, 4660]), [0, 1, 255, 0, 52])

    def test_held_from_0_to_255(self):
        self.assertEqual(li_narrow(1, RIMS), [0, 0, 127, 128, 255, 255, 255, 255, 255, 255, 255])
        self.assertEqual(li_narrow(1, [1, 254, 257, 511, 512]), [0, 1, 254, 255, 255, 255])

    def test_with_a_sign(self):
        self.assertEqual(li_narrow(2, RIMS), [0, 0, 127, 127, 127, 127, 127, 128, 128, 128, 255])
        # 65406 is -130, 65409 is -127, 65534 is -2, 32769 is -32767.
        x = [1, 126, 32766, 32769, 65406, 65409, 65534]
        self.assertEqual(li_narrow(2, x), [0, 1, 126, 127, 128, 128, 129, 254])

    def test_every_word_as_the_words_tell(self):
        for mode in (0, 1, 2):
            for first in range(0, 65536, 32768):
                x = list(range(first, first + 32768))
                self.assertEqual(li_narrow(mode, x), [0] + [narrow_by_words(mode, word) for word in x], mode)

    def test_in_their_order(self):
        self.assertEqual(li_narrow(0, [3, 2, 1, 2]), [0, 3, 2, 1, 2])
        self.assertEqual(li_narrow(1, [3, 2, 1, 2]), [0, 3, 2, 1, 2])
        self.assertEqual(li_narrow(2, [3, 2, 1, 2]), [0, 3, 2, 1, 2])


class RangeTest(unittest.TestCase):
    def test_mode_above_2_is_refused(self):
        for mode in (3, 4, 255, 256, 65536, MOST):
            self.assertEqual(li_narrow(mode, RIMS), [-2])
            self.assertEqual(li_narrow(mode, []), [-2])

    def test_none(self):
        for mode in (0, 1, 2):
            self.assertEqual(li_narrow(mode, []), [0])

    def test_60000_are_answered(self):
        for mode, told in ((0, 44), (1, 255), (2, 127)):
            self.assertEqual(li_narrow(mode, [300] * 60000), [0] + [told] * 60000)
        self.assertEqual(li_narrow(3, [300] * 60000), [-2])

    def test_n_is_refused_above_65536(self):
        for mode in (0, 1, 2):
            self.assertEqual(li_narrow(mode, [7] * 65536), [0] + [7] * 65536)
            self.assertEqual(li_narrow(mode, [7] * 65537), [-2])


if __name__ == "__main__":
    unittest.main()
