"""The calls of the layer light. Each answers one list of whole numbers."""

OUT_OF_RANGE = -2
NONE_SUCH = -6

MOST_BYTES = 65536
MOST_SIDE = 256
WHITE = 255
WORD_BITS = 32


def li_counts(x):
    """How many there are of each byte, from 0 to 255."""
    if len(x) > MOST_BYTES:
        return [OUT_OF_RANGE]
    counts = [0] * (WHITE + 1)
    for value in x:
        counts[value] += 1
    return [0] + counts


def li_best(k):
    """The threshold that parts the counts k by most, the least of such."""
    number = sum(k)
    total = sum([value * count for value, count in enumerate(k)])
    best = NONE_SUCH
    # Whatever parts at all parts by more than 0: the values above t are greater than those up to t.
    best_top = 0
    best_bottom = 1
    low_number = 0
    low_total = 0
    for t in range(WHITE):
        low_number += k[t]
        low_total += t * k[t]
        high_number = number - low_number
        if low_number > 0 and high_number > 0:
            gap = low_number * (total - low_total) - high_number * low_total
            top = gap * gap
            bottom = low_number * high_number
            # Crosswise products compare the quotients without rounding either of them.
            if top * best_bottom > best_top * bottom:
                best = t
                best_top = top
                best_bottom = bottom
    return [best]


def li_kth(k, x):
    """The k-th byte of x, the least the first."""
    if len(x) > MOST_BYTES:
        return [OUT_OF_RANGE]
    if k == 0 or k > len(x):
        return [NONE_SUCH]
    return [sorted(x)[k - 1]]


def li_black(w, t, x):
    """Dots where a byte of the page is t or less."""
    if not is_page(w, x) or t > WHITE:
        return [OUT_OF_RANGE]
    return [0] + words_of_page(w, [1 if value <= t else 0 for value in x])


def is_page(w, x):
    """Whether x is a page of rows of w bytes, as wide and as high as a page may be."""
    # The width comes first: by a width of 0 no rows can be counted.
    if w < 1 or w > MOST_SIDE:
        return False
    h = len(x) // w
    return h >= 1 and h <= MOST_SIDE


def words_of_page(w, dots):
    """The words of rows of w dots, row by row; a dot is 1 (black) or 0."""
    words = []
    for start in range(0, len(dots), w):
        end = start + w
        for first in range(start, end, WORD_BITS):
            # A row's last word ends with the row, not within the next one.
            words.append(word_of_dots(dots[first:min(first + WORD_BITS, end)]))
    return words


def word_of_dots(dots):
    """One word: the first dot is its lowest bit, bits without a dot are 0."""
    word = 0
    for dot in reversed(dots):
        word = word * 2 + dot
    return word
